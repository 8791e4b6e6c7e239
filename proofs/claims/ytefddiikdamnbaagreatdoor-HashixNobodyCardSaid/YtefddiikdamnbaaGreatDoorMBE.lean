/- Texts of the same proof, one behind the other: EE, EF, EG, EH, EI, EJ. -/
import Derived.Test.YtefddiikdamnbaaGreatDoorMBD
import Derived.Laws.IdiomCopy
import Derived.Test.YtefddiikdamnbaaGreatDoorMBA
import Derived.Test.YtefddiikdamnbaaGreatDoorMBB
/- What bytes begin with, in plain words; the contract of the program's intOf. -/
set_option maxRecDepth 100000
namespace Go.Proofs.YtefddiikdamnbaaGreatDoor.Dm
open Go Go.RowKit
theorem toList_size (s : ByteArray) : s.data.toList.length = s.size := rfl

theorem u8_not {u : UInt8} {c : UInt8} (h : u ≠ c) : ((u.toNat : Int) == (c.toNat : Int)) = false := by
  rw [beq_eq_false_iff_ne]
  intro h'
  exact h (UInt8.toNat_inj.1 (by omega))

theorem extract_drop (s : ByteArray) (j : Nat) : (s.extract j s.size).data.toList = s.data.toList.drop j := by
  rw [Lib.extract_data]
  exact List.take_of_length_le (by rw [List.length_drop]; exact Nat.le_refl _)
theorem extract_small (s : ByteArray) (j : Nat) (hs : s.size ≤ 140737488355328) : (s.extract j s.size).size ≤ 140737488355328 := by
  have e1 : (s.extract j s.size).size = (s.extract j s.size).data.toList.length := rfl
  have e2 : s.data.toList.length = s.size := rfl
  rw [e1, extract_drop, List.length_drop]
  omega

/-- Four stores into a result's own box. -/
theorem below_res {w w1 : World} {v0 v1 v2 v3 : Value} (h : Below w.heap.size w w1) : Below w.heap.size w ((((w1.setCell ⟨w.heap.size, 0, none⟩ v0).setCell ⟨w.heap.size, 1, none⟩ v1).setCell ⟨w.heap.size, 2, none⟩ v2).setCell ⟨w.heap.size, 3, none⟩ v3) :=
  (((h.setCell (p := ⟨w.heap.size, 0, none⟩) (Nat.le_refl _) _).setCell (p := ⟨w.heap.size, 1, none⟩) (Nat.le_refl _) _).setCell (p := ⟨w.heap.size, 2, none⟩) (Nat.le_refl _) _).setCell (p := ⟨w.heap.size, 3, none⟩) (Nat.le_refl _) _

theorem blen (B b : Nat) (acc : List UInt8) (w : World) (h : Lib.IsBuilderF 263 5 B b (Lib.byteCells acc) w) :
    Calls Tryz.prog 239 #[.pointer (some ⟨b, 0, none⟩)] w fun e w' => e = .returned (.int .i64 acc.length) ∧ w = w' := by
  refine (Tryz.Builder_Len_f B b _ w h).mono ?_
  rintro e w' ⟨rfl, rfl⟩
  rw [Lib.byteCells_length]
  exact ⟨rfl, rfl⟩

theorem fresh_above (w : World) (o : Obj) : Lib.IsBuilderF 263 5 (w.heap.size + 1) (w.heap.size + 1) (Lib.byteCells []) ((w.alloc o).alloc (.cells #[.pointer none, .slice none 0 0] 263)) := by
  have h := Lib.fresh_isBuilder 263 5 (w.alloc o)
  rw [World.size_alloc] at h
  exact Lib.IsBuilderF.of h

open Go Go.RowKit

/-- The text that bytes hold from here on, acc being read already, and where it ends. -/
def txF : List UInt8 → List UInt8 → Nat → Option (List UInt8 × Nat)
  | [], _, _ => none
  | [_], _, _ => none
  | c :: d :: r, acc, i => if 32 < acc.length then none else if c ≠ 0 then txF (d :: r) (acc ++ [c]) (i + 1) else if d = 0 then some (acc, i + 2) else if d ≠ 255 then none else txF r (acc ++ [0]) (i + 2)
/-- The number that bytes tell, the highest first. -/
def ivF (l : List UInt8) : Nat := l.foldl (fun u c => u * 256 + c.toNat) 0
/-- The integer of such a number. -/
def toI (u : Nat) : Int := wrap64 (bits BinOp.xor IntKind.u64 (u : Int) 9223372036854775808)
/-- The item that bytes begin with, and how many bytes it has. -/
def itF : List UInt8 → Option ((Int × Int × ByteArray) × Nat)
  | [] => none
  | c :: r => if c = 1 then (if r.length < 8 then none else some ((1, toI (ivF (r.take 8)), ⟨#[]⟩), 9)) else if c = 2 then (txF r [] 1).map (fun p => ((2, 0, ⟨p.1.toArray⟩), p.2)) else none
/-- How the program tells it. -/
def resF : Option ((Int × Int × ByteArray) × Nat) → Value
  | none => .tuple #[.agg #[.int .i64 0, .int .i64 0, .string ⟨#[]⟩, .slice none 0 0], .int .i64 0]
  | some ((k, n, t), m) => .tuple #[.agg #[.int .i64 k, .int .i64 n, .string t, .slice none 0 0], .int .i64 m]

theorem ivF_snoc (l : List UInt8) (c : UInt8) : ivF (l ++ [c]) = ivF l * 256 + c.toNat := by simp [ivF]
theorem fold_lt (l : List UInt8) : ∀ u k, u < 256 ^ k → l.foldl (fun u c => u * 256 + c.toNat) u < 256 ^ (k + l.length) := by
  induction l with
  | nil => intro u k h; simpa using h
  | cons c l ih =>
    intro u k h
    have hc := c.toNat_lt
    have := ih (u * 256 + c.toNat) (k + 1) (by rw [Nat.pow_succ]; omega)
    rw [List.foldl_cons, List.length_cons, show k + (l.length + 1) = k + 1 + l.length by omega]
    exact this
theorem ivF_lt (l : List UInt8) : ivF l < 256 ^ l.length := by simpa [ivF] using fold_lt l 0 0 (by decide)
theorem or_low (u c : Nat) (hu : u < 72057594037927936) (hc : c < 256) : bits BinOp.or IntKind.u64 ((u : Int) * 256) (c : Int) = ((u * 256 + c : Nat) : Int) := by
  have := u64_or_nat (u * 256) c (by omega) (by omega)
  rw [nat_join 8 (u * 256) c (by omega) hc] at this
  simpa using this

set_option maxHeartbeats 1600000 in
theorem intOf_any (s : ByteArray) (w : World) (r : List UInt8) (hs : s.data.toList = 1 :: r) : Calls Tryz.prog 227 #[.string s] w fun e w' => e = .returned (resF (itF s.data.toList)) ∧ Below w.heap.size w w' := by
  have hsz : s.size = 1 + r.length := by
    have : s.data.toList.length = s.size := rfl
    rw [← this, hs, List.length_cons]
    omega
  by_cases hl : s.size < 9
  · have HR : Hid (resF (itF s.data.toList) = .tuple #[.agg #[.int .i64 0, .int .i64 0, .string ⟨#[]⟩, .slice none 0 0], .int .i64 0]) := Lib.hid (by
      rw [hs, itF, if_pos rfl, if_pos (by omega)]
      rfl)
    clear hs hsz
    go_enter Tryz.func227, Tryz.ntmps227
    go_wp2
    refine bodyPost_ret (v := .tuple #[.agg #[.int .i64 0, .int .i64 0, .string ⟨#[]⟩, .slice none 0 0], .int .i64 0]) (by simp [results, Tryz.results227, go_sem]) rfl ⟨by rw [HR.out], by first | exact (Below.refl _ _).alloc (Nat.le_refl _) _ | exact below_res ((Below.refl _ _).alloc (Nat.le_refl _) _)⟩
  · have HR : Hid (resF (itF s.data.toList) = .tuple #[.agg #[.int .i64 1, .int .i64 (toI (ivF (r.take 8))), .string ⟨#[]⟩, .slice none 0 0], .int .i64 9]) := Lib.hid (by
      rw [hs, itF, if_pos rfl, if_neg (by omega)]
      rfl)
    have HS := Lib.hid hs; clear hs
    go_enter Tryz.func227, Tryz.ntmps227
    go_wp2
    go_loopw [4, 5, 10] (fun vu _ vi wr => ∃ j : Nat, j ≤ 8 ∧ vi = .int .i64 j ∧ vu = .int .u64 (ivF (r.take j)) ∧ wr = w.alloc (.cells #[.int .i64 0, .int .i64 0, .string ⟨#[]⟩, .slice none 0 0] 81)) (fun _ _ i _ => 8 - (intOf i).toNat)
    case atStart => exact ⟨0, by omega, rfl, rfl, rfl⟩
    case round =>
      obtain ⟨j, hj, rfl, rfl, rfl⟩ := hrel
      by_cases hlt : j < 8
      · have h1 : 1 + j < s.size := by omega
        have hjr : j < r.length := by omega
        have hsj : s[1 + j] = r[j] := by
          have e : s.data.toList[1 + j]'(by rw [HS.out, List.length_cons]; omega) = r[j] := by simp [HS.out, Nat.add_comm 1 j]
          exact (show s[1 + j] = s.data.toList[1 + j]'(by rw [HS.out, List.length_cons]; omega) from rfl).trans e
        have hu : ivF (r.take j) < 72057594037927936 := by
          refine Nat.lt_of_lt_of_le (ivF_lt _) ?_
          refine Nat.le_trans (Nat.pow_le_pow_right (n := 256) (j := 7) (by decide) ?_) (by decide)
          have := List.length_take_le j r
          omega
        have hc := s[1 + j].toNat_lt
        have hw1 : IntKind.u64.wrap ((ivF (r.take j) : Int) * 256) = (ivF (r.take j) : Int) * 256 := by simp [IntKind.wrap, IntKind.signed, IntKind.bits]; omega
        have hw2 : IntKind.u64.wrap (s[1 + j].toNat : Int) = (s[1 + j].toNat : Int) := by simp [IntKind.wrap, IntKind.signed, IntKind.bits]; omega
        have hor := or_low (ivF (r.take j)) s[1 + j].toNat hu hc
        have hst : ivF (r.take (j + 1)) = ivF (r.take j) * 256 + s[1 + j].toNat := by rw [List.take_succ_eq_append_getElem hjr, ivF_snoc, hsj]
        have HST := Lib.hid hst; have HOR := Lib.hid hor; have HW1 := Lib.hid hw1; have HW2 := Lib.hid hw2
        clear hsj hu hc hw1 hw2 hor hst
        go_wp2_with fail
        go_roundw
        case rel => exact ⟨j + 1, by omega, by go_num, by rw [HW1.out, HW2.out, HOR.out, HST.out], trivial⟩
        case measure => simp [intOf]; omega
      · obtain rfl : j = 8 := by omega
        go_wp2_with fail
        refine bodyPost_ret (v := .tuple #[.agg #[.int .i64 1, .int .i64 (toI (ivF (r.take 8))), .string ⟨#[]⟩, .slice none 0 0], .int .i64 9]) (by simp [results, Tryz.results227, go_sem, toI]) rfl ⟨by rw [HR.out], by first | exact (Below.refl _ _).alloc (Nat.le_refl _) _ | exact below_res ((Below.refl _ _).alloc (Nat.le_refl _) _)⟩
end Go.Proofs.YtefddiikdamnbaaGreatDoor.Dm

/- The contracts of the program's textOf and itemOf: what the bytes begin with; other memory stands. -/
set_option maxRecDepth 100000
namespace Go.Proofs.YtefddiikdamnbaaGreatDoor.Dm
open Go Go.RowKit

theorem txF_full {l acc : List UInt8} {i : Nat} (h : 32 < acc.length) : txF l acc i = none := by
  match l with
  | [] => rfl
  | [_] => rfl
  | c :: d :: r => rw [txF, if_pos h]
theorem txF_plain {c : UInt8} {r acc : List UInt8} {i : Nat} (h : acc.length ≤ 32) (hc : c ≠ 0) : txF (c :: r) acc i = txF r (acc ++ [c]) (i + 1) := by
  match r with
  | [] => rfl
  | d :: r => rw [txF, if_neg (by omega), if_pos hc]
theorem txF_end {r acc : List UInt8} {i : Nat} (h : acc.length ≤ 32) : txF (0 :: 0 :: r) acc i = some (acc, i + 2) := by
  rw [txF, if_neg (by omega), if_neg (by simp), if_pos rfl]
theorem txF_nought {r acc : List UInt8} {i : Nat} (h : acc.length ≤ 32) : txF (0 :: 255 :: r) acc i = txF r (acc ++ [0]) (i + 2) := by
  rw [txF, if_neg (by omega), if_neg (by simp), if_neg (by decide), if_neg (by simp)]
theorem txF_bad {d : UInt8} {r acc : List UInt8} {i : Nat} (h0 : d ≠ 0) (h1 : d ≠ 255) : txF (0 :: d :: r) acc i = none := by
  rw [txF]
  split
  · rfl
  · simp
/-- What is told of a text that was read or not. -/
def resT (o : Option (List UInt8 × Nat)) : Value := resF (o.map (fun p => ((2, 0, ⟨p.1.toArray⟩), p.2)))

set_option maxHeartbeats 3200000 in
theorem textOf_go (s : ByteArray) (w : World) (hs : s.size ≤ 140737488355328) (h1s : 1 ≤ s.size) : Calls Tryz.prog 228 #[.string s] w fun e w' => e = .returned (resT (txF (s.data.toList.drop 1) [] 1)) ∧ Below w.heap.size w w' := by
  have HLEN := Lib.hid (toList_size s)
  go_enter Tryz.func228, Tryz.ntmps228
  go_wp2
  go_loopw [5] (fun i wr => ∃ (j : Nat) (acc : List UInt8), j ≤ s.size ∧ i = .int .i64 j ∧ acc.length ≤ 33 ∧ Hid (Lib.IsBuilderF 263 5 (w.heap.size + 1) (w.heap.size + 1) (Lib.byteCells acc) wr) ∧ Below (w.heap.size + 1) (w.alloc (.cells #[.int .i64 0, .int .i64 0, .string ⟨#[]⟩, .slice none 0 0] 81)) wr ∧ w.heap.size + 1 < wr.heap.size ∧ Hid (txF (s.data.toList.drop 1) [] 1 = txF (s.data.toList.drop j) acc j)) (fun i _ => s.size - (intOf i).toNat)
  case atStart => exact ⟨1, [], h1s, rfl, by simp, Lib.hid (fresh_above _ _), (Below.refl _ _).alloc (by simp) _, by simp, Lib.hid rfl⟩
  case round =>
    obtain ⟨j, acc, hj, rfl, hacc, HI, hb, hsz, HC⟩ := hrel
    obtain ⟨c0, c1, c2, c3⟩ := box_cells hb
    obtain ⟨f0, f1, f2, f3⟩ := box_frozen hb
    have HB := Lib.hid hb; clear hb
    have HBW : Hid (Below w.heap.size w wr) := Lib.hid (below_al _ (by simpa using HB.out))
    by_cases hlt : j < s.size
    · have hlt' : j < s.data.toList.length := hlt
      by_cases ha : acc.length ≤ 32
      · have hd : s.data.toList.drop j = s[j] :: s.data.toList.drop (j + 1) := List.drop_eq_getElem_cons hlt'
        by_cases h0 : s[j] = 0
        · have b0 : ((s[j].toNat : Int) != 0) = false := by rw [h0]; rfl
          have HD := Lib.hid hd; have H0 := Lib.hid h0; clear hd h0
          by_cases hend : j + 1 = s.size
          · have HN : Hid (txF (s.data.toList.drop 1) [] 1 = none) := Lib.hid (by
              rw [HC.out, HD.out, List.drop_eq_nil_of_le (by have := HLEN.out; omega)]
              rfl)
            have hend' : ((j : Int) + 1 == (s.size : Int)) = true := by rw [beq_iff_eq]; omega
            go_wp2_with fail
            refine (blen _ _ _ _ HI.out).mono ?_
            rintro e w' ⟨rfl, rfl⟩
            go_wp2_with fail
            refine bodyPost_ret (v := .tuple #[.agg #[.int .i64 0, .int .i64 0, .string ⟨#[]⟩, .slice none 0 0], .int .i64 0]) (by simp [results, Tryz.results228, go_sem, c0, c1, c2, c3]) rfl ⟨by rw [HN.out]; rfl, below_res HBW.out⟩
          · have hlt2 : j + 1 < s.size := by omega
            have hend' : ((j : Int) + 1 == (s.size : Int)) = false := by rw [beq_eq_false_iff_ne]; omega
            have hd2 : s.data.toList.drop (j + 1) = s[j + 1] :: s.data.toList.drop (j + 1 + 1) := List.drop_eq_getElem_cons (by have := HLEN.out; omega)
            by_cases g0 : s[j + 1] = 0
            · have b1 : ((s[j + 1].toNat : Int) == 0) = true := by rw [g0]; rfl
              have HN : Hid (txF (s.data.toList.drop 1) [] 1 = some (acc, j + 2)) := Lib.hid (by
                rw [HC.out, HD.out, hd2, H0.out, g0, txF_end ha])
              clear hd2 g0
              go_wp2_with fail
              refine (blen _ _ _ _ HI.out).mono ?_
              rintro e w' ⟨rfl, rfl⟩
              go_wp2_with fail
              refine (Tryz.Builder_String_any_k (w.heap.size + 1) (w.heap.size + 1) _ _ HI.out (by omega)).mono ?_
              rintro e w1 ⟨rfl, h1, hb1, hk1⟩
              have HB1 := Lib.hid (HB.out.trans hb1)
              obtain ⟨d0, d1, d2, d3⟩ := box_cells HB1.out
              obtain ⟨g0, g1, g2, g3⟩ := box_frozen HB1.out
              have HBW1 : Hid (Below w.heap.size w w1) := Lib.hid (below_al _ (by simpa using HB1.out))
              go_wp2
              refine bodyPost_ret (v := .tuple #[.agg #[.int .i64 2, .int .i64 0, .string ⟨acc.toArray⟩, .slice none 0 0], .int .i64 ((j + 2 : Nat) : Int)]) (by simp [results, Tryz.results228, go_sem, d0, d1, d2, d3]; omega) rfl ⟨by rw [HN.out]; rfl, below_res HBW1.out⟩
            · have b1 : ((s[j + 1].toNat : Int) == 0) = false := u8_not (c := 0) g0
              by_cases g1 : s[j + 1] = 255
              · have b2 : ((s[j + 1].toNat : Int) != 255) = false := by rw [g1]; rfl
                have HN : Hid (txF (s.data.toList.drop 1) [] 1 = txF (s.data.toList.drop (j + 2)) (acc ++ [0]) (j + 2)) := Lib.hid (by
                  rw [HC.out, HD.out, hd2, H0.out, g1, txF_nought ha])
                clear hd2 g0 g1
                go_wp2_with fail
                refine (blen _ _ _ _ HI.out).mono ?_
                rintro e w' ⟨rfl, rfl⟩
                go_wp2_with fail
                refine (writeByte_k (w.heap.size + 1) (w.heap.size + 1) _ 0 _ HI.out (by rw [Lib.byteCells_length]; omega) (by omega)).mono ?_
                rintro e w1 ⟨rfl, h1, hb1, hk1⟩
                have HI1 : Hid (Lib.IsBuilderF 263 5 (w.heap.size + 1) (w.heap.size + 1) (Lib.byteCells (acc ++ [0])) w1) := Lib.hid (by rw [Lib.byteCells_append]; exact .inr h1)
                have HB1 := Lib.hid (HB.out.trans hb1)
                have hz1 := hb1.size
                clear h1 hb1 hk1
                go_wp2
                go_roundw
                case rel => exact ⟨j + 2, acc ++ [0], by omega, by go_num, by simp; omega, HI1, HB1.out, by omega, HN⟩
                case measure => simp [intOf]; omega
              · have b2 : ((s[j + 1].toNat : Int) != 255) = true := by
                  have := u8_not (c := 255) g1
                  rw [bne, show (255 : Int) = ((255 : UInt8).toNat : Int) from rfl, this]
                  rfl
                have HN : Hid (txF (s.data.toList.drop 1) [] 1 = none) := Lib.hid (by
                  rw [HC.out, HD.out, hd2, H0.out, txF_bad g0 g1])
                clear hd2 g0 g1
                go_wp2_with fail
                refine (blen _ _ _ _ HI.out).mono ?_
                rintro e w' ⟨rfl, rfl⟩
                go_wp2_with fail
                refine bodyPost_ret (v := .tuple #[.agg #[.int .i64 0, .int .i64 0, .string ⟨#[]⟩, .slice none 0 0], .int .i64 0]) (by simp [results, Tryz.results228, go_sem, c0, c1, c2, c3]) rfl ⟨by rw [HN.out]; rfl, below_res HBW.out⟩
        · have b0 : ((s[j].toNat : Int) != 0) = true := by
            have := u8_not (c := 0) h0
            rw [bne, show (0 : Int) = ((0 : UInt8).toNat : Int) from rfl, this]
            rfl
          have HN : Hid (txF (s.data.toList.drop 1) [] 1 = txF (s.data.toList.drop (j + 1)) (acc ++ [s[j]]) (j + 1)) := Lib.hid (by
            rw [HC.out, hd, txF_plain ha h0])
          clear hd h0
          go_wp2_with fail
          refine (blen _ _ _ _ HI.out).mono ?_
          rintro e w' ⟨rfl, rfl⟩
          go_wp2_with fail
          refine (writeByte_k (w.heap.size + 1) (w.heap.size + 1) _ _ _ HI.out (by rw [Lib.byteCells_length]; omega) (by omega)).mono ?_
          rintro e w1 ⟨rfl, h1, hb1, hk1⟩
          have HI1 : Hid (Lib.IsBuilderF 263 5 (w.heap.size + 1) (w.heap.size + 1) (Lib.byteCells (acc ++ [s[j]])) w1) := Lib.hid (by rw [Lib.byteCells_append]; exact .inr h1)
          have HB1 := Lib.hid (HB.out.trans hb1)
          have hz1 := hb1.size
          clear h1 hb1 hk1
          go_wp2
          go_roundw
          case rel => exact ⟨j + 1, acc ++ [s[j]], by omega, by go_num, by simp; omega, HI1, HB1.out, by omega, HN⟩
          case measure => simp [intOf]; omega
      · have HN : Hid (txF (s.data.toList.drop 1) [] 1 = none) := Lib.hid (by rw [HC.out, txF_full (by omega)])
        go_wp2_with fail
        refine (blen _ _ _ _ HI.out).mono ?_
        rintro e w' ⟨rfl, rfl⟩
        go_wp2
        refine bodyPost_ret (v := .tuple #[.agg #[.int .i64 0, .int .i64 0, .string ⟨#[]⟩, .slice none 0 0], .int .i64 0]) (by simp [results, Tryz.results228, go_sem, c0, c1, c2, c3]) rfl ⟨by rw [HN.out]; rfl, below_res HBW.out⟩
    · have HN : Hid (txF (s.data.toList.drop 1) [] 1 = none) := Lib.hid (by rw [HC.out, List.drop_eq_nil_of_le (by have := HLEN.out; omega)]; rfl)
      go_wp2
      refine bodyPost_ret (v := .tuple #[.agg #[.int .i64 0, .int .i64 0, .string ⟨#[]⟩, .slice none 0 0], .int .i64 0]) (by simp [results, Tryz.results228, go_sem, c0, c1, c2, c3]) rfl ⟨by rw [HN.out]; rfl, below_res HBW.out⟩

theorem size_cons {s : ByteArray} {c : UInt8} {r : List UInt8} (h : s.data.toList = c :: r) : s.size = 1 + r.length := by
  have : s.data.toList.length = s.size := rfl
  rw [← this, h, List.length_cons]
  omega
theorem first_cons {s : ByteArray} {c : UInt8} {r : List UInt8} (h : s.data.toList = c :: r) (h0 : 0 < s.size) : s[0] = c := by
  have e : s.data.toList[0]'(by rw [h]; simp) = c := by simp [h]
  exact (show s[0] = s.data.toList[0]'(by rw [h]; simp) from rfl).trans e
theorem resF_form (o : Option ((Int × Int × ByteArray) × Nat)) : ∃ (k n : Int) (t : ByteArray) (m : Int), resF o = .tuple #[.agg #[.int .i64 k, .int .i64 n, .string t, .slice none 0 0], .int .i64 m] := by
  rcases o with _ | ⟨⟨k, n, t⟩, m⟩
  · exact ⟨0, 0, _, 0, rfl⟩
  · exact ⟨k, n, t, m, rfl⟩

set_option maxHeartbeats 1600000 in
theorem itemOf_any (s : ByteArray) (w : World) (hs : s.size ≤ 140737488355328) : Calls Tryz.prog 190 #[.string s] w fun e w' => e = .returned (resF (itF s.data.toList)) ∧ Below w.heap.size w w' := by
  match hl : s.data.toList with
  | [] =>
    obtain rfl : s = ⟨#[]⟩ := ByteArray.ext (by simpa using hl)
    clear hl
    go_enter Tryz.func190, Tryz.ntmps190
    go_wp2
    refine bodyPost_ret (v := .tuple #[.agg #[.int .i64 0, .int .i64 0, .string ⟨#[]⟩, .slice none 0 0], .int .i64 0]) (by simp [results, Tryz.results190, go_sem]) rfl ⟨rfl, by first | exact (Below.refl _ _).alloc (Nat.le_refl _) _ | exact below_res ((Below.refl _ _).alloc (Nat.le_refl _) _)⟩
  | c :: r =>
    have hsz := size_cons hl
    have h0 : 0 < s.size := by omega
    have hf := first_cons hl h0
    have hne : s.toList ≠ [] := by rw [ByteArray.toList_eq, hl]; simp
    have hne2 : s.toList.isEmpty = false := by rw [ByteArray.toList_eq, hl]; rfl
    obtain ⟨k, n, t, m, hres⟩ := resF_form (itF (c :: r))
    rw [hres]
    by_cases h1 : c = 1
    · have b1 : ((s[0].toNat : Int) == 1) = true := by rw [hf, h1]; rfl
      have HC := Lib.hid (intOf_any s · r (by rw [hl, h1]))
      have HR : Hid (resF (itF s.data.toList) = .tuple #[.agg #[.int .i64 k, .int .i64 n, .string t, .slice none 0 0], .int .i64 m]) := Lib.hid (by rw [hl, hres])
      clear hl hf hres
      go_enter Tryz.func190, Tryz.ntmps190
      go_wp2_with fail
      refine (HC.out _).mono ?_
      rw [HR.out]
      rintro e w1 ⟨rfl, hb⟩
      obtain ⟨c0, c1, c2, c3⟩ := box_cells (by simpa using hb)
      obtain ⟨f0, f1, f2, f3⟩ := box_frozen (by simpa using hb)
      have HB := Lib.hid (below_al _ hb); clear hb
      go_wp2
      exact bodyPost_ret (v := .tuple #[.agg #[.int .i64 k, .int .i64 n, .string t, .slice none 0 0], .int .i64 m]) (by simp [results, Tryz.results190, go_sem, c0, c1, c2, c3]) rfl ⟨rfl, below_res HB.out⟩
    · have b1 : ((s[0].toNat : Int) == 1) = false := by rw [hf]; exact u8_not (c := 1) h1
      by_cases h2 : c = 2
      · have b2 : ((s[0].toNat : Int) == 2) = true := by rw [hf, h2]; rfl
        have HC := Lib.hid (textOf_go s · hs (by omega))
        have HR : Hid (resT (txF (s.data.toList.drop 1) [] 1) = .tuple #[.agg #[.int .i64 k, .int .i64 n, .string t, .slice none 0 0], .int .i64 m]) := Lib.hid (by rw [← hres, hl, itF, if_neg h1, if_pos h2]; rfl)
        clear hl hf hres
        go_enter Tryz.func190, Tryz.ntmps190
        go_wp2_with fail
        refine (HC.out _).mono ?_
        rw [HR.out]
        rintro e w1 ⟨rfl, hb⟩
        obtain ⟨c0, c1, c2, c3⟩ := box_cells (by simpa using hb)
        obtain ⟨f0, f1, f2, f3⟩ := box_frozen (by simpa using hb)
        have HB := Lib.hid (below_al _ hb); clear hb
        go_wp2
        exact bodyPost_ret (v := .tuple #[.agg #[.int .i64 k, .int .i64 n, .string t, .slice none 0 0], .int .i64 m]) (by simp [results, Tryz.results190, go_sem, c0, c1, c2, c3]) rfl ⟨rfl, below_res HB.out⟩
      · have b2 : ((s[0].toNat : Int) == 2) = false := by rw [hf]; exact u8_not (c := 2) h2
        have HR : Hid (Ending.returned (.tuple #[.agg #[.int .i64 0, .int .i64 0, .string ⟨#[]⟩, .slice none 0 0], .int .i64 0]) = .returned (.tuple #[.agg #[.int .i64 k, .int .i64 n, .string t, .slice none 0 0], .int .i64 m])) := Lib.hid (by rw [← hres, itF, if_neg h1, if_neg h2]; rfl)
        clear hl hf hres
        go_enter Tryz.func190, Tryz.ntmps190
        go_wp2
        refine bodyPost_ret (v := .tuple #[.agg #[.int .i64 0, .int .i64 0, .string ⟨#[]⟩, .slice none 0 0], .int .i64 0]) (by simp [results, Tryz.results190, go_sem]) rfl ⟨HR.out, by first | exact (Below.refl _ _).alloc (Nat.le_refl _) _ | exact below_res ((Below.refl _ _).alloc (Nat.le_refl _) _)⟩
end Go.Proofs.YtefddiikdamnbaaGreatDoor.Dm

/- The contract of the program's listOf: the list that the bytes begin with; other memory stands. -/
set_option maxRecDepth 100000
namespace Go.Proofs.YtefddiikdamnbaaGreatDoor.Dm
open Go Go.RowKit
/-- An item's own data. -/
def cont (x : It) : Int × Int × ByteArray := (x.k, x.n, x.s)
/-- Items that were read. -/
def Fre (xs : List It) : Prop := ∀ x ∈ xs, I64 x.n ∧ x.ll = 0
/-- The items lie in a block from B on. -/
def SlG (B : Nat) (w : World) (a : Option Addr) (xs : List It) : Prop :=
  xs = [] ∨ ∃ b off, a = some ⟨b, off, none⟩ ∧ B ≤ b ∧ b < w.heap.size ∧ CellsOf w b off xs
theorem SlG.setCell {B : Nat} {w : World} {a : Option Addr} {xs : List It} (h : SlG B w a xs) {p : Addr} (hp : p.block < B) (v : Value) : SlG B (w.setCell p v) a xs := by
  rcases h with h | ⟨b, off, h1, h2, h3, h4⟩
  · exact .inl h
  · refine .inr ⟨b, off, h1, h2, by simpa [World.setCell] using h3, fun j hj => ?_⟩
    obtain ⟨e0, e1, e2, e3⟩ := h4 j hj
    have hh : ∀ i, (w.setCell p v).cell? ⟨b, i, none⟩ = w.cell? ⟨b, i, none⟩ := fun i => World.cell?_of_block (w := w) (Below.heap_setCell _ _ _ _ (by show b ≠ p.block; omega))
    exact ⟨(hh _).trans e0, (hh _).trans e1, (hh _).trans e2, (hh _).trans e3⟩


theorem SlG.setCells {B b : Nat} {w : World} {a : Option Addr} {xs : List It} (h : SlG B w a xs) (hb : b < B) (v0 v1 v2 v3 : Value) : SlG B ((((w.setCell ⟨b, 0, none⟩ v0).setCell ⟨b, 1, none⟩ v1).setCell ⟨b, 2, none⟩ v2).setCell ⟨b, 3, none⟩ v3) a xs :=
  (((h.setCell (p := ⟨b, 0, none⟩) hb v0).setCell (p := ⟨b, 1, none⟩) hb v1).setCell (p := ⟨b, 2, none⟩) hb v2).setCell (p := ⟨b, 3, none⟩) hb v3
theorem SlG.below {B C : Nat} {w w' : World} {a : Option Addr} {xs : List It} (h : SlG B w a xs) (hb : Below C w w') (hC : w.heap.size ≤ C) : SlG B w' a xs := by
  rcases h with h | ⟨b, off, h1, h2, h3, h4⟩
  · exact .inl h
  · have hs : Sl w' a xs := (Sl.below (.inr ⟨b, off, h1, h3, h4⟩) hb hC)
    rcases hs with h | ⟨b', off', e1, e3, e4⟩
    · exact .inl h
    · rw [h1] at e1
      injection e1 with e1
      injection e1 with e1 e2
      subst e1; subst e2
      exact .inr ⟨b, off, h1, h2, e3, e4⟩

theorem below_set4 {B b : Nat} {w w1 : World} (h : Below B w w1) (hb : B ≤ b) (v0 v1 v2 v3 : Value) : Below B w ((((w1.setCell ⟨b, 0, none⟩ v0).setCell ⟨b, 1, none⟩ v1).setCell ⟨b, 2, none⟩ v2).setCell ⟨b, 3, none⟩ v3) :=
  (((h.setCell (p := ⟨b, 0, none⟩) hb v0).setCell (p := ⟨b, 1, none⟩) hb v1).setCell (p := ⟨b, 2, none⟩) hb v2).setCell (p := ⟨b, 3, none⟩) hb v3
open Go Go.RowKit

/-- So many items that bytes begin with, and how many bytes they have. -/
def isF : Nat → List UInt8 → Option (List (Int × Int × ByteArray) × Nat)
  | 0, _ => some ([], 0)
  | c + 1, l => match itF l with
    | none => none
    | some (x, m) => (isF c (l.drop m)).map fun p => (x :: p.1, m + p.2)
/-- The list that bytes begin with (their first byte is not asked). -/
def lsF : List UInt8 → Option (List (Int × Int × ByteArray) × Nat)
  | _ :: d :: r => if 8 < d.toNat then none else (isF d.toNat r).map fun p => (p.1, 2 + p.2)
  | _ => none

theorem txF_pos : ∀ (l acc : List UInt8) (i : Nat) (a : List UInt8) (p : Nat), txF l acc i = some (a, p) → i + 2 ≤ p ∧ p ≤ i + l.length
  | [], _, _, _, _, h => by simp [txF] at h
  | [_], _, _, _, _, h => by simp [txF] at h
  | c :: d :: r, acc, i, a, p, h => by
    rw [txF] at h
    split at h
    · cases h
    · split at h
      · have := txF_pos (d :: r) _ _ _ _ h
        simp only [List.length_cons] at this ⊢
        omega
      · split at h
        · injection h with h
          injection h with _ h
          simp only [List.length_cons]
          omega
        · split at h
          · cases h
          · have := txF_pos r _ _ _ _ h
            simp only [List.length_cons]
            omega
theorem toI_i64 (u : Nat) : I64 (toI u) := by
  unfold toI wrap64 I64
  omega
theorem itF_some {l : List UInt8} {k n : Int} {t : ByteArray} {m : Nat} (h : itF l = some ((k, n, t), m)) : I64 n ∧ 1 ≤ m ∧ m ≤ l.length := by
  match l with
  | [] => cases h
  | c :: r =>
    rw [itF] at h
    split at h
    · split at h
      · cases h
      · injection h with h
        injection h with h1 h2
        injection h1 with _ h1
        injection h1 with h1 _
        subst h1; subst h2
        refine ⟨toI_i64 _, by omega, ?_⟩
        simp only [List.length_cons]
        omega
    · split at h
      · obtain ⟨⟨a, p⟩, h1, h2⟩ := Option.map_eq_some_iff.1 h
        have := txF_pos _ _ _ _ _ h1
        injection h2 with h2 h3
        injection h2 with _ h2
        injection h2 with h2 _
        subst h2; subst h3
        refine ⟨⟨by decide, by decide⟩, by omega, ?_⟩
        simp only [List.length_cons]
        omega
      · cases h

def zero4 : List Value := [.int .i64 0, .int .i64 0, .string ⟨#[]⟩, .slice none 0 0]
def zs (d : Nat) : Array Value := ((List.replicate d zero4).flatten).toArray
theorem mkd0 (w : World) : (Instr.makeSlice 79 (.int .u8 (0 : Nat)) (.int .u8 (0 : Nat))).run Tryz.prog w = .ok (.slice (some ⟨w.heap.size, 0, none⟩) 0 0) (w.alloc (.cells (zs 0) 81)) := by kernel_rfl
theorem mkd1 (w : World) : (Instr.makeSlice 79 (.int .u8 (1 : Nat)) (.int .u8 (1 : Nat))).run Tryz.prog w = .ok (.slice (some ⟨w.heap.size, 0, none⟩) 1 1) (w.alloc (.cells (zs 1) 81)) := by kernel_rfl
theorem mkd2 (w : World) : (Instr.makeSlice 79 (.int .u8 (2 : Nat)) (.int .u8 (2 : Nat))).run Tryz.prog w = .ok (.slice (some ⟨w.heap.size, 0, none⟩) 2 2) (w.alloc (.cells (zs 2) 81)) := by kernel_rfl
theorem mkd3 (w : World) : (Instr.makeSlice 79 (.int .u8 (3 : Nat)) (.int .u8 (3 : Nat))).run Tryz.prog w = .ok (.slice (some ⟨w.heap.size, 0, none⟩) 3 3) (w.alloc (.cells (zs 3) 81)) := by kernel_rfl
theorem mkd4 (w : World) : (Instr.makeSlice 79 (.int .u8 (4 : Nat)) (.int .u8 (4 : Nat))).run Tryz.prog w = .ok (.slice (some ⟨w.heap.size, 0, none⟩) 4 4) (w.alloc (.cells (zs 4) 81)) := by kernel_rfl
theorem mkd5 (w : World) : (Instr.makeSlice 79 (.int .u8 (5 : Nat)) (.int .u8 (5 : Nat))).run Tryz.prog w = .ok (.slice (some ⟨w.heap.size, 0, none⟩) 5 5) (w.alloc (.cells (zs 5) 81)) := by kernel_rfl
theorem mkd6 (w : World) : (Instr.makeSlice 79 (.int .u8 (6 : Nat)) (.int .u8 (6 : Nat))).run Tryz.prog w = .ok (.slice (some ⟨w.heap.size, 0, none⟩) 6 6) (w.alloc (.cells (zs 6) 81)) := by kernel_rfl
theorem mkd7 (w : World) : (Instr.makeSlice 79 (.int .u8 (7 : Nat)) (.int .u8 (7 : Nat))).run Tryz.prog w = .ok (.slice (some ⟨w.heap.size, 0, none⟩) 7 7) (w.alloc (.cells (zs 7) 81)) := by kernel_rfl
theorem mkd8 (w : World) : (Instr.makeSlice 79 (.int .u8 (8 : Nat)) (.int .u8 (8 : Nat))).run Tryz.prog w = .ok (.slice (some ⟨w.heap.size, 0, none⟩) 8 8) (w.alloc (.cells (zs 8) 81)) := by kernel_rfl
theorem mkd (d : Nat) (hd : d ≤ 8) (w : World) : (Instr.makeSlice 79 (.int .u8 d) (.int .u8 d)).run Tryz.prog w = .ok (.slice (some ⟨w.heap.size, 0, none⟩) d d) (w.alloc (.cells (zs d) 81)) := by
  have h : d = 0 ∨ d = 1 ∨ d = 2 ∨ d = 3 ∨ d = 4 ∨ d = 5 ∨ d = 6 ∨ d = 7 ∨ d = 8 := by omega
  rcases h with rfl | rfl | rfl | rfl | rfl | rfl | rfl | rfl | rfl
  · exact mkd0 w
  · exact mkd1 w
  · exact mkd2 w
  · exact mkd3 w
  · exact mkd4 w
  · exact mkd5 w
  · exact mkd6 w
  · exact mkd7 w
  · exact mkd8 w

/-- Four cells of a block, stored anew. -/
abbrev st4 (w : World) (G o : Nat) (v0 v1 v2 v3 : Value) : World := (((w.setCell ⟨G, o, none⟩ v0).setCell ⟨G, o + 1, none⟩ v1).setCell ⟨G, o + 2, none⟩ v2).setCell ⟨G, o + 3, none⟩ v3

theorem st4_eq (w : World) (G o : Nat) (v0 v1 v2 v3 : Value) : st4 w G o v0 v1 v2 v3 = w.setCells G o [v0, v1, v2, v3] := rfl

/-- The row that is being filled: acc stands at its head, and behind it zero data. -/
structure Row0 (w : World) (G D : Nat) (acc : List It) : Prop where
  got : CellsOf w G 0 acc
  zero : ∀ q, acc.length ≤ q → q < D → w.cell? ⟨G, q * 4, none⟩ = some (.int .i64 0) ∧ w.cell? ⟨G, q * 4 + 1, none⟩ = some (.int .i64 0) ∧ w.cell? ⟨G, q * 4 + 2, none⟩ = some (.string ⟨#[]⟩) ∧ w.cell? ⟨G, q * 4 + 3, none⟩ = some (.slice none 0 0)
  cold : ∀ o, w.frozen? ⟨G, o, none⟩ = false

theorem Row0.below {w w' : World} {G D B : Nat} {acc : List It} (h : Row0 w G D acc) (hb : Below B w w') (hG : G < B) : Row0 w' G D acc where
  got := fun j hj => by
    obtain ⟨e0, e1, e2, e3⟩ := h.got j hj
    exact ⟨(hb.cell (p := ⟨G, _, none⟩) hG).trans e0, (hb.cell (p := ⟨G, _, none⟩) hG).trans e1, (hb.cell (p := ⟨G, _, none⟩) hG).trans e2, (hb.cell (p := ⟨G, _, none⟩) hG).trans e3⟩
  zero := fun q h1 h2 => by
    obtain ⟨e0, e1, e2, e3⟩ := h.zero q h1 h2
    exact ⟨(hb.cell (p := ⟨G, _, none⟩) hG).trans e0, (hb.cell (p := ⟨G, _, none⟩) hG).trans e1, (hb.cell (p := ⟨G, _, none⟩) hG).trans e2, (hb.cell (p := ⟨G, _, none⟩) hG).trans e3⟩
  cold := fun o => (hb.frozen (p := ⟨G, o, none⟩) hG).trans (h.cold o)

theorem Row0.store {w : World} {G D : Nat} {acc : List It} (h : Row0 w G D acc) (hlt : acc.length < D) (k n : Int) (t : ByteArray) : Row0 (st4 w G (acc.length * 4) (.int .i64 k) (.int .i64 n) (.string t) (.slice none 0 0)) G D (acc ++ [⟨k, n, t, none, 0, 0⟩]) := by
  rw [st4_eq]
  have hin := World.cell?_setCells_in G [.int .i64 k, .int .i64 n, .string t, .slice none 0 0] (acc.length * 4) w (by
    obtain ⟨e0, e1, e2, e3⟩ := h.zero acc.length (Nat.le_refl _) hlt
    intro j hj
    have hq : j = 0 ∨ j = 1 ∨ j = 2 ∨ j = 3 := by simp only [List.length_cons, List.length_nil] at hj; omega
    rcases hq with rfl | rfl | rfl | rfl
    · rw [Nat.add_zero, e0]; rfl
    · rw [e1]; rfl
    · rw [e2]; rfl
    · rw [e3]; rfl)
  have hout : ∀ o, o < acc.length * 4 ∨ acc.length * 4 + 4 ≤ o → (w.setCells G (acc.length * 4) [.int .i64 k, .int .i64 n, .string t, .slice none 0 0]).cell? ⟨G, o, none⟩ = w.cell? ⟨G, o, none⟩ := fun o ho =>
    World.cell?_setCells_out G _ _ w ⟨G, o, none⟩ (fun _ _ => ho)
  refine ⟨fun j hj => ?_, fun q h1 h2 => ?_, fun o => by rw [World.frozen?_setCells]; exact h.cold o⟩
  · simp only [List.length_append, List.length_singleton] at hj
    by_cases hj' : j < acc.length
    · obtain ⟨e0, e1, e2, e3⟩ := h.got j hj'
      have e : (acc ++ [(⟨k, n, t, none, 0, 0⟩ : It)])[j]'(by simp; omega) = acc[j] := List.getElem_append_left hj'
      rw [e]
      exact ⟨(hout _ (by omega)).trans e0, (hout _ (by omega)).trans e1, (hout _ (by omega)).trans e2, (hout _ (by omega)).trans e3⟩
    · obtain rfl : j = acc.length := by omega
      have e : (acc ++ [(⟨k, n, t, none, 0, 0⟩ : It)])[acc.length]'(by simp) = ⟨k, n, t, none, 0, 0⟩ := by simp
      rw [e, Nat.zero_add]
      exact ⟨hin 0 (by simp), hin 1 (by simp), hin 2 (by simp), hin 3 (by simp)⟩
  · simp only [List.length_append, List.length_singleton] at h1
    obtain ⟨e0, e1, e2, e3⟩ := h.zero q (by omega) h2
    exact ⟨(hout _ (by omega)).trans e0, (hout _ (by omega)).trans e1, (hout _ (by omega)).trans e2, (hout _ (by omega)).trans e3⟩

theorem isF_step {c : Nat} {l : List UInt8} {x : Int × Int × ByteArray} {m : Nat} (h : itF l = some (x, m)) : isF (c + 1) l = (isF c (l.drop m)).map fun p => (x :: p.1, m + p.2) := by rw [isF, h]
theorem isF_none {c : Nat} {l : List UInt8} (h : itF l = none) : isF (c + 1) l = none := by rw [isF, h]

theorem row0_start (w : World) (D : Nat) (hD : D ≤ 8) : Row0 (w.alloc (.cells (zs D) 81)) w.heap.size D [] := by
  refine ⟨fun j hj => by simp at hj, fun q _ h2 => ?_, fun o => by simp⟩
  have h : D = 0 ∨ D = 1 ∨ D = 2 ∨ D = 3 ∨ D = 4 ∨ D = 5 ∨ D = 6 ∨ D = 7 ∨ D = 8 := by omega
  have hq : q = 0 ∨ q = 1 ∨ q = 2 ∨ q = 3 ∨ q = 4 ∨ q = 5 ∨ q = 6 ∨ q = 7 := by omega
  rcases h with rfl | rfl | rfl | rfl | rfl | rfl | rfl | rfl | rfl <;> rcases hq with rfl | rfl | rfl | rfl | rfl | rfl | rfl | rfl <;> first | (exfalso; omega) | (simp [zs, zero4, List.replicate])

/-- What listOf leaves. -/
def ListPostB (s : List UInt8) (w : World) (e : Ending) (w' : World) : Prop :=
  Below w.heap.size w w' ∧
  ((lsF s = none ∧ e = .returned (.tuple #[.agg #[.int .i64 0, .int .i64 0, .string ⟨#[]⟩, .slice none 0 0], .int .i64 0])) ∨
   ∃ (a : Option Addr) (xs : List It) (lc m : Nat), lsF s = some (xs.map cont, m) ∧ 1 ≤ m ∧ e = .returned (.tuple #[.agg #[.int .i64 3, .int .i64 0, .string ⟨#[]⟩, .slice a xs.length lc], .int .i64 m]) ∧ Fre xs ∧ xs.length ≤ 8 ∧ SlG w.heap.size w' a xs)

theorem SlG.weak {B C : Nat} {w : World} {a : Option Addr} {xs : List It} (h : SlG B w a xs) (hC : C ≤ B) : SlG C w a xs := by
  rcases h with h | ⟨b, off, h1, h2, h3, h4⟩
  · exact .inl h
  · exact .inr ⟨b, off, h1, by omega, h3, h4⟩

set_option maxHeartbeats 3200000 in
theorem listOf_any (s : ByteArray) (w : World) (hs : s.size ≤ 140737488355328) : Calls Tryz.prog 191 #[.string s] w (ListPostB s.data.toList w) := by
  have HLEN := Lib.hid (toList_size s)
  by_cases h2 : s.size < 2
  · have HN : Hid (lsF s.data.toList = none) := Lib.hid (by
      have := HLEN.out
      match hl : s.data.toList with
      | [] => rfl
      | [_] => rfl
      | _ :: _ :: _ => rw [hl] at this; simp only [List.length_cons] at this; omega)
    go_enter Tryz.func191, Tryz.ntmps191
    go_wp2
    refine bodyPost_ret (v := .tuple #[.agg #[.int .i64 0, .int .i64 0, .string ⟨#[]⟩, .slice none 0 0], .int .i64 0]) (by simp [results, Tryz.results191, go_sem]) rfl ⟨by first | exact (Below.refl _ _).alloc (Nat.le_refl _) _ | exact below_res ((Below.refl _ _).alloc (Nat.le_refl _) _), .inl ⟨HN.out, rfl⟩⟩
  · obtain ⟨x0, d, r, hl⟩ : ∃ x0 d r, s.data.toList = x0 :: d :: r := by
      have := HLEN.out
      match hl : s.data.toList with
      | [] => rw [hl] at this; simp only [List.length_nil] at this; omega
      | [_] => rw [hl] at this; simp only [List.length_cons, List.length_nil] at this; omega
      | x :: d :: r => exact ⟨x, d, r, rfl⟩
    have h1s : 1 < s.size := by omega
    have hd : s[1] = d := by
      have e : s.data.toList[1]'(by rw [hl]; simp) = d := by simp [hl]
      exact (show s[1] = s.data.toList[1]'(by rw [hl]; simp) from rfl).trans e
    by_cases h8 : 8 < d.toNat
    · have HN : Hid (lsF s.data.toList = none) := Lib.hid (by rw [hl, lsF, if_pos h8])
      have b8 : 8 < (s[1].toNat : Int) := by rw [hd]; omega
      clear hl hd
      go_enter Tryz.func191, Tryz.ntmps191
      go_wp2
      refine bodyPost_ret (v := .tuple #[.agg #[.int .i64 0, .int .i64 0, .string ⟨#[]⟩, .slice none 0 0], .int .i64 0]) (by simp [results, Tryz.results191, go_sem]) rfl ⟨by first | exact (Below.refl _ _).alloc (Nat.le_refl _) _ | exact below_res ((Below.refl _ _).alloc (Nat.le_refl _) _), .inl ⟨HN.out, rfl⟩⟩
    · obtain ⟨D, hD⟩ : ∃ D : Nat, D = s[1].toNat := ⟨_, rfl⟩
      have hD8 : D ≤ 8 := by rw [hD, hd]; omega
      have b8 : ¬ 8 < (s[1].toNat : Int) := by omega
      have HF : Hid (lsF s.data.toList = (isF D (s.data.toList.drop 2)).map fun p => (p.1, 2 + p.2)) := Lib.hid (by
        rw [hl, lsF, if_neg h8, hD, hd]
        rfl)
      have hmk := mkd D hD8 (w.alloc (.cells #[.int .i64 0, .int .i64 0, .string ⟨#[]⟩, .slice none 0 0] 81))
      rw [hD] at hmk
      clear hl hd
      go_enter Tryz.func191, Tryz.ntmps191
      go_wp2
      rw [← hD]
      have HD := Lib.hid hD; clear hD hmk
      go_loopw [5, 6, 7, 8, 23] (fun vat _ _ _ vi wr => ∃ (at' : Nat) (acc : List It), vi = .int .i64 acc.length ∧ vat = .int .i64 at' ∧ acc.length ≤ D ∧ 2 ≤ at' ∧ at' ≤ s.size ∧ w.heap.size + 1 < wr.heap.size ∧ Hid (isF D (s.data.toList.drop 2) = (isF (D - acc.length) (s.data.toList.drop at')).map fun p => (acc.map cont ++ p.1, (at' - 2) + p.2)) ∧ Hid (Fre acc) ∧ Hid (Row0 wr (w.heap.size + 1) D acc) ∧ Hid (Below (w.heap.size + 1) (w.alloc (.cells #[.int .i64 0, .int .i64 0, .string ⟨#[]⟩, .slice none 0 0] 81)) wr)) (fun _ _ _ _ i _ => D - (intOf i).toNat)
      case atStart =>
        refine ⟨2, [], rfl, rfl, Nat.zero_le _, Nat.le_refl _, by omega, by simp, Lib.hid ?_, Lib.hid (fun x hx => by simp at hx), Lib.hid ?_, Lib.hid ((Below.refl _ _).alloc (by simp) _)⟩
        · simp
        · have := row0_start (w.alloc (.cells #[.int .i64 0, .int .i64 0, .string ⟨#[]⟩, .slice none 0 0] 81)) D hD8
          rw [World.size_alloc] at this
          exact this
      case round =>
        obtain ⟨at', acc, rfl, rfl, h1, h2a, h2b, hsz, HQ, HFR, HRW, HB⟩ := hrel
        by_cases hlt : acc.length < D
        · obtain ⟨c, hc⟩ : ∃ c, D - acc.length = c + 1 := ⟨D - acc.length - 1, by omega⟩
          have HBW : Hid (Below w.heap.size w wr) := Lib.hid (below_al _ (by simpa using HB.out))
          match hit : itF (s.data.toList.drop at') with
          | none =>
            have HN : Hid (lsF s.data.toList = none) := Lib.hid (by rw [HF.out, HQ.out, hc, isF_none hit]; rfl)
            have HIT := Lib.hid hit; clear hit hc
            go_wp2_with fail
            refine (itemOf_any _ _ (extract_small s _ hs)).mono ?_
            rw [extract_drop, HIT.out]
            rintro e w1 ⟨rfl, hb⟩
            have hz1 := hb.size
            have HB1 := Lib.hid ((HB.out.trans (hb.mono (by omega))).alloc (by omega) (.cells #[.int .i64 0, .int .i64 0, .string ⟨#[]⟩, .slice none 0 0] 81)); clear hb
            obtain ⟨c0, c1, c2, c3⟩ := box_cells HB1.out
            obtain ⟨f0, f1, f2, f3⟩ := box_frozen HB1.out
            rw [resF]
            go_wp2
            have HBW1 : Hid (Below w.heap.size w (w1.alloc (.cells #[.int .i64 0, .int .i64 0, .string ⟨#[]⟩, .slice none 0 0] 81))) := Lib.hid (below_al _ (by simpa using HB1.out))
            exact bodyPost_ret (v := .tuple #[.agg #[.int .i64 0, .int .i64 0, .string ⟨#[]⟩, .slice none 0 0], .int .i64 0]) (by simp [results, Tryz.results191, go_sem, c0, c1, c2, c3]) rfl ⟨below_res HBW1.out, .inl ⟨HN.out, rfl⟩⟩
          | some ((k, n, t), m) =>
            obtain ⟨hn, hm1, hm2⟩ := itF_some hit
            rw [List.length_drop, HLEN.out] at hm2
            have hmz : ((m : Int) == 0) = false := by rw [beq_eq_false_iff_ne]; omega
            have HN : Hid (isF D (s.data.toList.drop 2) = (isF (D - (acc.length + 1)) (s.data.toList.drop (at' + m))).map fun p => ((acc ++ [(⟨k, n, t, none, 0, 0⟩ : It)]).map cont ++ p.1, (at' + m - 2) + p.2)) := Lib.hid (by
              rw [HQ.out, hc, isF_step hit, List.drop_drop, show D - (acc.length + 1) = c by omega, Option.map_map]
              congr 1
              funext p
              simp only [Function.comp, List.map_append, List.map_cons, List.map_nil, List.append_assoc, List.cons_append, List.nil_append]
              refine Prod.ext rfl ?_
              show at' - 2 + (m + p.2) = at' + m - 2 + p.2
              omega)
            have HFR2 : Hid (Fre (acc ++ [(⟨k, n, t, none, 0, 0⟩ : It)])) := Lib.hid (by
              intro x hx
              rw [List.mem_append, List.mem_singleton] at hx
              rcases hx with hx | rfl
              · exact HFR.out x hx
              · exact ⟨hn, rfl⟩)
            have HIT := Lib.hid hit; clear hit hc
            go_wp2_with fail
            refine (itemOf_any _ _ (extract_small s _ hs)).mono ?_
            rw [extract_drop, HIT.out]
            rintro e w1 ⟨rfl, hb⟩
            have hz1 := hb.size
            have HR1 := Lib.hid (HRW.out.below hb (by omega))
            have HB1 := Lib.hid (HB.out.trans (hb.mono (by omega))); clear hb
            have HR2 := Lib.hid (HR1.out.below ((Below.refl w1.heap.size w1).alloc (Nat.le_refl _) (.cells #[.int .i64 k, .int .i64 n, .string t, .slice none 0 0] 81)) (by omega))
            have HR3 := Lib.hid (HR2.out.store hlt k n t)
            obtain ⟨e0, e1, e2, e3⟩ := HR2.out.zero acc.length (Nat.le_refl _) hlt
            have f0 := HR2.out.cold (acc.length * 4)
            have f1 := HR2.out.cold (acc.length * 4 + 1)
            have f2 := HR2.out.cold (acc.length * 4 + 2)
            have f3 := HR2.out.cold (acc.length * 4 + 3)
            rw [resF]
            go_wp2
            go_roundw
            case rel =>
              refine ⟨at' + m, acc ++ [⟨k, n, t, none, 0, 0⟩], by rw [List.length_append]; go_num, by go_num, by simp; omega, by omega, by omega, ?_, ?_, HFR2, HR3, ?_⟩
              · simp [World.setCell]; omega
              · rw [List.length_append]; exact HN
              · exact Lib.hid ((((((HB1.out.alloc (by omega) _).setCell (p := ⟨w.heap.size + 1, _, none⟩) (Nat.le_refl _) _).setCell (p := ⟨w.heap.size + 1, _, none⟩) (Nat.le_refl _) _).setCell (p := ⟨w.heap.size + 1, _, none⟩) (Nat.le_refl _) _).setCell (p := ⟨w.heap.size + 1, _, none⟩) (Nat.le_refl _) _))
            case measure => simp [intOf]; omega
        · obtain ⟨hD'⟩ : Nonempty (acc.length = D) := ⟨by omega⟩
          have HN : Hid (lsF s.data.toList = some (acc.map cont, at')) := Lib.hid (by
            rw [HF.out, HQ.out, hD', Nat.sub_self, isF]
            simp only [Option.map_some, List.append_nil, Nat.add_zero]
            rw [show 2 + (at' - 2) = at' by omega])
          have HBW : Hid (Below w.heap.size w wr) := Lib.hid (below_al _ (by simpa using HB.out))
          obtain ⟨c0, c1, c2, c3⟩ := box_cells HB.out
          obtain ⟨f0, f1, f2, f3⟩ := box_frozen HB.out
          have HSG : Hid (SlG (w.heap.size + 1) wr (some ⟨w.heap.size + 1, 0, none⟩) acc) := Lib.hid (.inr ⟨w.heap.size + 1, 0, rfl, Nat.le_refl _, by omega, HRW.out.got⟩)
          subst hD'
          go_wp2
          exact bodyPost_ret (v := .tuple #[.agg #[.int .i64 3, .int .i64 0, .string ⟨#[]⟩, .slice (some ⟨w.heap.size + 1, 0, none⟩) acc.length acc.length], .int .i64 at']) (by simp [results, Tryz.results191, go_sem, c0, c1, c2, c3]) rfl ⟨below_res HBW.out, .inr ⟨some ⟨w.heap.size + 1, 0, none⟩, acc, acc.length, at', HN.out, by omega, rfl, HFR.out, hD8, (HSG.out.setCells (by omega) _ _ _ _).weak (by omega)⟩⟩
end Go.Proofs.YtefddiikdamnbaaGreatDoor.Dm

/- The contract of the program's Of: the datum that the bytes begin with; other memory stands. -/
set_option maxRecDepth 100000
namespace Go.Proofs.YtefddiikdamnbaaGreatDoor.Dm
open Go Go.RowKit

/-- The datum that bytes begin with, its items, and how many bytes it has. -/
def ofF (l : List UInt8) : Option ((Int × Int × ByteArray) × List (Int × Int × ByteArray) × Nat) :=
  if l.head? = some 3 then (lsF l).map fun p => ((3, 0, ⟨#[]⟩), p.1, p.2) else (itF l).map fun p => (p.1, [], p.2)

/-- What Of leaves. -/
def OfPost (s : List UInt8) (w : World) (e : Ending) (w' : World) : Prop :=
  Below w.heap.size w w' ∧
  ((ofF s = none ∧ e = .returned (.tuple #[.agg #[.int .i64 0, .int .i64 0, .string ⟨#[]⟩, .slice none 0 0], .int .i64 0, .int .i64 11])) ∨
   ∃ (k n : Int) (t : ByteArray) (a : Option Addr) (xs : List It) (lc m : Nat), ofF s = some ((k, n, t), xs.map cont, m) ∧ e = .returned (.tuple #[.agg #[.int .i64 k, .int .i64 n, .string t, .slice a xs.length lc], .int .i64 m, .int .i64 0]) ∧ I64 n ∧ Fre xs ∧ xs.length ≤ 8 ∧ SlG w.heap.size w' a xs)

set_option maxHeartbeats 1600000 in
theorem of_item (s : ByteArray) (w : World) (hs : s.size ≤ 140737488355328) (h3 : s.data.toList.head? ≠ some 3) : Calls Tryz.prog 132 #[.string s] w (OfPost s.data.toList w) := by
  have HLEN := Lib.hid (toList_size s)
  have HO : Hid (ofF s.data.toList = (itF s.data.toList).map fun p => (p.1, [], p.2)) := Lib.hid (by rw [ofF, if_neg h3])
  have hcond : s.size = 0 ∨ ∃ h : 0 < s.size, ((s[0].toNat : Int) == 3) = false := by
    match hl : s.data.toList with
    | [] => exact .inl (by have := HLEN.out; rw [hl] at this; simpa using this.symm)
    | c :: r =>
      have h0 : 0 < s.size := by have := size_cons hl; omega
      refine .inr ⟨h0, ?_⟩
      rw [first_cons hl h0]
      exact u8_not (c := 3) (fun h => h3 (by rw [hl, h]; rfl))
  clear h3
  match hit : itF s.data.toList with
  | none =>
    have HIT := Lib.hid hit; clear hit
    have HN : Hid (ofF s.data.toList = none) := Lib.hid (by rw [HO.out, HIT.out]; rfl)
    rcases hcond with hz | ⟨hz, hb3⟩
    all_goals
      go_enter Tryz.func132, Tryz.ntmps132
      go_wp2_with fail
      refine (itemOf_any _ _ hs).mono ?_
      rw [HIT.out]
      rintro e w1 ⟨rfl, hb⟩
      have hz1 := hb.size
      simp only [World.size_alloc] at hz1
      have HB1 := Lib.hid ((show Below (w.heap.size + 1) _ w1 from by simpa using hb).alloc (by omega) (.cells #[.int .i64 0, .int .i64 0, .string ⟨#[]⟩, .slice none 0 0] 81)); clear hb
      obtain ⟨c0, c1, c2, c3⟩ := box_cells HB1.out
      obtain ⟨f0, f1, f2, f3⟩ := box_frozen HB1.out
      have HBW : Hid (Below w.heap.size w (w1.alloc (.cells #[.int .i64 0, .int .i64 0, .string ⟨#[]⟩, .slice none 0 0] 81))) := Lib.hid (below_al _ (by simpa using HB1.out))
      rw [resF]
      go_wp2
      exact bodyPost_ret (v := .tuple #[.agg #[.int .i64 0, .int .i64 0, .string ⟨#[]⟩, .slice none 0 0], .int .i64 0, .int .i64 11]) (by simp [results, Tryz.results132, go_sem, c0, c1, c2, c3]) rfl ⟨below_res HBW.out, .inl ⟨HN.out, rfl⟩⟩
  | some ((k, n, t), m) =>
    obtain ⟨hn, hm1, hm2⟩ := itF_some hit
    have hmz : ((m : Int) == 0) = false := by rw [beq_eq_false_iff_ne]; omega
    have HIT := Lib.hid hit; have HNN := Lib.hid hn; clear hit hn
    have HN : Hid (ofF s.data.toList = some ((k, n, t), ([] : List It).map cont, m)) := Lib.hid (by rw [HO.out, HIT.out]; rfl)
    rcases hcond with hz | ⟨hz, hb3⟩
    all_goals
      go_enter Tryz.func132, Tryz.ntmps132
      go_wp2_with fail
      refine (itemOf_any _ _ hs).mono ?_
      rw [HIT.out]
      rintro e w1 ⟨rfl, hb⟩
      have hz1 := hb.size
      simp only [World.size_alloc] at hz1
      have HB1 := Lib.hid ((show Below (w.heap.size + 1) _ w1 from by simpa using hb).alloc (by omega) (.cells #[.int .i64 k, .int .i64 n, .string t, .slice none 0 0] 81)); clear hb
      obtain ⟨c0, c1, c2, c3⟩ := box_cells HB1.out
      obtain ⟨f0, f1, f2, f3⟩ := box_frozen HB1.out
      have HBW : Hid (Below w.heap.size w (w1.alloc (.cells #[.int .i64 k, .int .i64 n, .string t, .slice none 0 0] 81))) := Lib.hid (below_al _ (by simpa using HB1.out))
      rw [resF]
      go_wp2
      exact bodyPost_ret (v := .tuple #[.agg #[.int .i64 k, .int .i64 n, .string t, .slice none 0 0], .int .i64 m, .int .i64 0]) (by simp [results, Tryz.results132, go_sem, c0, c1, c2, c3]) rfl ⟨below_res HBW.out, .inr ⟨k, n, t, none, [], 0, m, HN.out, rfl, HNN.out, (fun x hx => by simp at hx), by simp, .inl rfl⟩⟩

set_option maxHeartbeats 1600000 in
theorem of_list (s : ByteArray) (w : World) (hs : s.size ≤ 140737488355328) (h3 : s.data.toList.head? = some 3) : Calls Tryz.prog 132 #[.string s] w (OfPost s.data.toList w) := by
  have HLEN := Lib.hid (toList_size s)
  have HO : Hid (ofF s.data.toList = (lsF s.data.toList).map fun p => ((3, 0, ⟨#[]⟩), p.1, p.2)) := Lib.hid (by rw [ofF, if_pos h3])
  obtain ⟨r, hl⟩ : ∃ r, s.data.toList = 3 :: r := by
    match hl : s.data.toList with
    | [] => rw [hl] at h3; cases h3
    | c :: r => rw [hl] at h3; injection h3 with h3; exact ⟨r, by rw [h3]⟩
  have h0 : 0 < s.size := by have := size_cons hl; omega
  have hb3 : ((s[0].toNat : Int) == 3) = true := by rw [first_cons hl h0]; rfl
  have HIT : Hid (itF s.data.toList = none) := Lib.hid (by rw [hl, itF, if_neg (by decide), if_neg (by decide)])
  clear h3 hl
  go_enter Tryz.func132, Tryz.ntmps132
  go_wp2_with fail
  refine (itemOf_any _ _ hs).mono ?_
  rw [HIT.out]
  rintro e w1 ⟨rfl, hb⟩
  have hz1 := hb.size
  simp only [World.size_alloc] at hz1
  have HB1 := Lib.hid ((show Below (w.heap.size + 1) _ w1 from by simpa using hb).alloc (by omega) (.cells #[.int .i64 0, .int .i64 0, .string ⟨#[]⟩, .slice none 0 0] 81)); clear hb
  rw [resF]
  go_wp2_with fail
  refine (listOf_any _ _ hs).mono ?_
  rintro e w2 ⟨hb2, hpost⟩
  have HP := Lib.hid hpost; clear hpost
  have hz2 := hb2.size
  simp only [World.size_alloc] at hz2
  obtain ⟨e0, e1, e2, e3⟩ := box_cells (w := w1) (by simpa using hb2)
  obtain ⟨g0, g1, g2, g3⟩ := box_frozen (w := w1) (by simpa using hb2)
  have HB2 := Lib.hid (HB1.out.trans (hb2.mono (by simp only [World.size_alloc]; omega))); clear hb2
  obtain ⟨c0, c1, c2, c3⟩ := box_cells HB2.out
  obtain ⟨f0, f1, f2, f3⟩ := box_frozen HB2.out
  have HBW : Hid (Below w.heap.size w w2) := Lib.hid (below_al _ (by simpa using HB2.out))
  have hne : w1.heap.size ≠ w.heap.size := by omega
  have hne' : w.heap.size ≠ w1.heap.size := by omega
  rcases HP.out with ⟨hno, rfl⟩ | ⟨a, xs, lc, m, hl, hm1, rfl, hfr, h8, hsl⟩
  · have HN : Hid (ofF s.data.toList = none) := Lib.hid (by rw [HO.out, hno]; rfl)
    clear hno HP
    go_wp2
    exact bodyPost_ret (v := .tuple #[.agg #[.int .i64 0, .int .i64 0, .string ⟨#[]⟩, .slice none 0 0], .int .i64 0, .int .i64 11]) (by simp [results, Tryz.results132, go_sem, c0, c1, c2, c3]) rfl ⟨below_set4 (below_set4 HBW.out (by omega) _ _ _ _) (Nat.le_refl _) _ _ _ _, .inl ⟨HN.out, rfl⟩⟩
  · have HN : Hid (ofF s.data.toList = some ((3, 0, ⟨#[]⟩), xs.map cont, m)) := Lib.hid (by rw [HO.out, hl]; rfl)
    have hmz : ((m : Int) == 0) = false := by rw [beq_eq_false_iff_ne]; omega
    have HFR := Lib.hid hfr
    have HSL := Lib.hid (show SlG (w1.heap.size + 1) w2 a xs by simpa using hsl)
    clear hl hfr hsl HP
    go_wp2
    exact bodyPost_ret (v := .tuple #[.agg #[.int .i64 3, .int .i64 0, .string ⟨#[]⟩, .slice a xs.length lc], .int .i64 m, .int .i64 0]) (by simp [results, Tryz.results132, go_sem, c0, c1, c2, c3]) rfl ⟨below_set4 (below_set4 HBW.out (by omega) _ _ _ _) (Nat.le_refl _) _ _ _ _, .inr ⟨3, 0, _, a, xs, lc, m, HN.out, rfl, ⟨by decide, by decide⟩, HFR.out, h8, ((HSL.out.setCells (by omega) _ _ _ _).setCells (by omega) _ _ _ _).weak (by omega)⟩⟩

theorem of_any (s : ByteArray) (w : World) (hs : s.size ≤ 140737488355328) : Calls Tryz.prog 132 #[.string s] w (OfPost s.data.toList w) := by
  by_cases h3 : s.data.toList.head? = some 3
  · exact of_list s w hs h3
  · exact of_item s w hs h3
end Go.Proofs.YtefddiikdamnbaaGreatDoor.Dm

/- A datum's bytes, whatever stands behind them, begin with that datum: in plain words. No condition. -/
set_option maxRecDepth 100000
namespace Go.Proofs.YtefddiikdamnbaaGreatDoor.Dm
open Go Go.RowKit

theorem toI_back (n : Int) (hn : I64 n) (u : Nat) (hu : (u : Int) = n + 9223372036854775808) : toI u = n := by
  obtain ⟨h1, h2⟩ := hn
  have h := uOf_eq (wrap64 (u : Int)) (by unfold wrap64; omega) (by unfold wrap64; omega)
  unfold uOf at h
  rw [IntKind.wrap_u64, show wrap64 (u : Int) % 18446744073709551616 = (u : Int) by unfold wrap64; omega] at h
  unfold toI
  rw [h]
  unfold wrap64
  omega

theorem intB_list (n : Int) : intB n = [byt (uOf n / 72057594037927936), byt (uOf n / 281474976710656), byt (uOf n / 1099511627776), byt (uOf n / 4294967296), byt (uOf n / 16777216), byt (uOf n / 65536), byt (uOf n / 256), byt (uOf n)] := by
  simp [intB, intTo, List.range, List.range.loop]
theorem ivF_back (n : Int) (hn : I64 n) : ((ivF (intB n) : Nat) : Int) = n + 9223372036854775808 := by
  have hu := uOf_eq n hn.1 hn.2
  obtain ⟨h1, h2⟩ := hn
  rw [intB_list]
  obtain ⟨U, hU⟩ : ∃ U, U = uOf n := ⟨_, rfl⟩
  rw [← hU] at hu ⊢
  have b7 := byt_nat (U / 72057594037927936)
  have b6 := byt_nat (U / 281474976710656)
  have b5 := byt_nat (U / 1099511627776)
  have b4 := byt_nat (U / 4294967296)
  have b3 := byt_nat (U / 16777216)
  have b2 := byt_nat (U / 65536)
  have b1 := byt_nat (U / 256)
  have b0 := byt_nat U
  simp only [ivF, List.foldl_cons, List.foldl_nil]
  omega

theorem txF_back : ∀ (t acc : List UInt8) (i : Nat) (tail : List UInt8), acc.length + t.length ≤ 32 → txF (textTo t ++ 0 :: 0 :: tail) acc i = some (acc ++ t, i + (textTo t).length + 2)
  | [], acc, i, tail, h => by
    simp only [textTo, List.flatMap_nil, List.nil_append, List.append_nil, List.length_nil, Nat.add_zero]
    exact txF_end (by simpa using h)
  | c :: t, acc, i, tail, h => by
    have hstep : textTo (c :: t) = (if c = 0 then [0, 255] else [c]) ++ textTo t := by simp [textTo]
    simp only [List.length_cons] at h
    rw [hstep]
    by_cases hc : c = 0
    · subst hc
      rw [if_pos rfl]
      simp only [List.cons_append, List.nil_append]
      rw [txF_nought (by omega), txF_back t (acc ++ [0]) (i + 2) tail (by simp; omega)]
      simp only [List.append_assoc, List.cons_append, List.nil_append, List.length_cons]
      rw [show i + 2 + (textTo t).length + 2 = i + ((textTo t).length + 1 + 1) + 2 by omega]
    · rw [if_neg hc]
      simp only [List.cons_append, List.nil_append]
      rw [txF_plain (by omega) hc, txF_back t (acc ++ [c]) (i + 1) tail (by simp; omega)]
      simp only [List.append_assoc, List.cons_append, List.nil_append, List.length_cons]
      rw [show i + 1 + (textTo t).length + 2 = i + ((textTo t).length + 1) + 2 by omega]

theorem itF_back (k n : Int) (s : ByteArray) (tail : List UInt8) (hok : itemOk k n s 0 = true) (hn : I64 n) : itF (itemB k n s ++ tail) = some ((k, n, s), (itemB k n s).length) := by
  obtain ⟨_, ⟨rfl, hs⟩ | ⟨rfl, rfl, hs⟩⟩ := itemOk_true hok
  · have he : s = ⟨#[]⟩ := by
      rw [ByteArray.toList_eq] at hs
      have : s.data.toList = [] := by simpa using hs
      exact ByteArray.ext (by simpa using this)
    have hlen : (intB n).length = 8 := intTo_length n 8
    rw [itemB, if_pos rfl, List.cons_append, itF, if_pos rfl, if_neg (by rw [List.length_append]; omega), List.take_append_of_le_length (by omega), List.take_of_length_le (by omega), toI_back n hn _ (ivF_back n hn), List.length_cons, hlen, he]
  · have hl : s.data.toList.length = s.size := rfl
    rw [itemB, if_neg (by decide), List.cons_append, itF, if_neg (by decide), if_pos rfl, textB, List.append_assoc]
    have := txF_back s.data.toList [] 1 tail (by simp only [List.length_nil]; omega)
    simp only [List.cons_append, List.nil_append] at this ⊢
    rw [this]
    simp only [Option.map_some, List.length_cons, List.length_append, List.length_nil]
    congr 2
    omega

theorem isF_back : ∀ (xs : List It) (tail : List UInt8), (∀ x ∈ xs, x.ok = true) → AllI xs → isF xs.length (itemsB xs ++ tail) = some (xs.map cont, (itemsB xs).length)
  | [], tail, _, _ => by simp [isF, itemsB]
  | x :: xs, tail, h, hi => by
    have hx := itemOk_true (h x (by simp))
    have e : itemsB (x :: xs) = itemB x.k x.n x.s ++ itemsB xs := by simp [itemsB]
    have ih := isF_back xs tail (fun y hy => h y (by simp [hy])) (fun y hy => hi y (by simp [hy]))
    rw [List.length_cons, e, List.append_assoc, isF_step (itF_back x.k x.n x.s (itemsB xs ++ tail) (itemOk_of ⟨by omega, hx.2⟩) (hi x (by simp))), List.drop_left, ih]
    simp [cont]

/-- A datum's bytes are read as that datum. -/
theorem ofF_back (k n : Int) (s : ByteArray) (xs : List It) (tail : List UInt8) (hok : dOk k n s xs = true) (hn : I64 n) (hns : AllI xs) : ofF (datB k n s xs ++ tail) = some ((k, n, s), xs.map cont, (datB k n s xs).length) := by
  by_cases hk : k = 3
  · subst hk
    rw [dOk, if_pos rfl] at hok
    obtain ⟨rfl, hs, hlen, hall⟩ := listOk_parts hok
    have he : s = ⟨#[]⟩ := by
      rw [ByteArray.toList_eq] at hs
      have : s.data.toList = [] := by simpa using hs
      exact ByteArray.ext (by simpa using this)
    have hb : (byt xs.length).toNat = xs.length := by have := byt_nat xs.length; omega
    rw [datB, if_pos rfl, List.cons_append, List.cons_append, ofF, if_pos List.head?_cons, lsF, if_neg (by omega), hb, isF_back xs tail hall hns, he]
    simp only [Option.map_some, List.length_cons]
    congr 3
    omega
  · obtain ⟨rfl, hit⟩ := items_none hok hk
    have hh : (itemB k n s ++ tail).head? ≠ some 3 := by
      unfold itemB
      split <;> simp
    rw [datB, if_neg hk, ofF, if_neg hh, itF_back k n s tail hit hn]
    rfl
end Go.Proofs.YtefddiikdamnbaaGreatDoor.Dm

/- The contracts of the program's Hash of a datum, and of the document's. -/
set_option maxRecDepth 100000
namespace Go.Proofs.YtefddiikdamnbaaGreatDoor.Dm
open Go Go.RowKit

/-- One step of the hash. -/
def fnvStep (h : Int) (u : UInt8) : Int := bits BinOp.xor IntKind.u32 h ((u.toNat : Int) % 4294967296) * 16777619 % 4294967296
def fnv (l : List UInt8) : Int := l.foldl fnvStep 2166136261
theorem fnv_snoc (l : List UInt8) (u : UInt8) : fnv (l ++ [u]) = fnvStep (fnv l) u := by simp [fnv]
theorem fnv_bounds (l : List UInt8) : 0 ≤ fnv l ∧ fnv l < 4294967296 := by
  rcases List.eq_nil_or_concat l with rfl | ⟨m, u, rfl⟩
  · simp [fnv]
  · rw [List.concat_eq_append, fnv_snoc]
    unfold fnvStep
    omega

theorem putter_hash (b : Nat) : Putter 198 (.pointer (some ⟨b, 0, none⟩)) b b (fun l w => w.heap[b]? = some (.cells #[.int .u32 (fnv l)] 255 (0, 0))) where
  enters := fun args w => enters_of Tryz.func198 (by kernel_rfl) rfl args w
  put := by
    intro l w c u hc hI hl hB
    subst hc
    have c0 : w.cell? ⟨b, 0, none⟩ = some (.int .u32 (fnv l)) := by rw [Lib.cell_of_heap hI]; rfl
    have f0 : w.frozen? ⟨b, 0, none⟩ = false := Lib.frozen_of_heap hI 0
    go_enter Tryz.func198, Tryz.ntmps198
    go_wp2
    go_end0
    refine ⟨rfl, ?_, (Below.refl _ _).setCell (p := ⟨b, 0, none⟩) (Nat.le_refl b) _, (Lib.OthersKept.refl _ _ w).setCell ⟨b, 0, none⟩ rfl _⟩
    rw [fnv_snoc]
    exact one_setCell hI
  alloc := by
    intro l w o h
    rw [Lib.alloc_old w o b (Array.getElem?_eq_some_iff.1 h).1]
    exact h
  low := by
    intro l w hb
    exact (Array.getElem?_eq_some_iff.1 hb).1

set_option maxHeartbeats 800000 in
theorem hash_ok (k n : Int) (s : ByteArray) (a : Option Addr) (xs : List It) (lc : Nat) (w : World) (hS : Sl w a xs) (h : dOk k n s xs = true) :
    Calls Tryz.prog 137 #[.agg #[.int .i64 k, .int .i64 n, .string s, .slice a xs.length lc]] w fun e w' => e = .returned (.tuple #[.int .i64 (fnv (datB k n s xs)), .int .i64 0]) ∧ Below w.heap.size w w' := by
  have HS := Lib.hid hS; clear hS
  have HF := Lib.hid h; clear h
  obtain ⟨v, hv⟩ : ∃ v, v = fnv (datB k n s xs) := ⟨_, rfl⟩
  rw [← hv]
  have hv0 : 0 ≤ v := by rw [hv]; exact (fnv_bounds _).1
  have hv1 : v < 4294967296 := by rw [hv]; exact (fnv_bounds _).2
  have HV := Lib.hid hv; clear hv
  go_enter Tryz.func137, Tryz.ntmps137
  go_wp2_with fail
  refine (check_ok _ _ _ _ _ _ _ (HS.out.below ((Below.refl _ _).alloc (Nat.le_refl _) _) (Nat.le_refl _)) HF.out).mono ?_
  rintro e w1 ⟨rfl, hb1⟩
  obtain ⟨c0, c1, c2, c3⟩ := box_cells (by simpa using hb1)
  have hz1 : w.heap.size < w1.heap.size := by have := hb1.size; simp at this; omega
  go_wp2_with fail
  refine (eachByte_any (Lib.hid (putter_hash w1.heap.size)) [] _ _ _ _ _ _ _ ?_ (Lib.hid (new_heap w1 _)) HF.out (by simp) (by simp)).mono ?_
  · exact ((HS.out.below ((Below.refl _ _).alloc (Nat.le_refl _) _) (Nat.le_refl _)).below hb1 (Nat.le_refl _)).slB.below ((Below.refl _ _).alloc (Nat.le_refl _) _)
  rintro e w2 ⟨rfl, hf⟩
  have d0 : w2.cell? ⟨w1.heap.size, 0, none⟩ = some (.int .u32 v) := by rw [cell_of_one hf.1, HV.out]; rfl
  have HF2 := Lib.hid hf; clear hf
  go_wp2
  go_ret2
  exact ⟨rfl, below_then (below_al _ hb1) (Nat.le_refl _) (((Below.refl _ _).alloc (Nat.le_refl _) _).trans HF2.out.2.1)⟩
end Go.Proofs.YtefddiikdamnbaaGreatDoor.Dm
