/- The contracts of the program's textOf and itemOf: what the bytes begin with; other memory stands. -/
import Derived.Test.YtnghhhmhinailaaEE
set_option maxRecDepth 100000
namespace Go.Proofs.Ytnghhhmhinailaa.Dm
open Go Go.RowKit

theorem txF_full {l acc : List UInt8} {i : Nat} (h : 32 < acc.length) : txF l acc i = none := by
  match l with
  | [] => rfl
  | [_] => rfl
  | c :: d :: r => rw [txF, if_pos h]
theorem txF_plain {c : UInt8} {r acc : List UInt8} {i : Nat} (h : acc.length ≤ 32) (hc : c ≠ 0) : txF (c :: r) acc i = txF r (acc ++ [c]) (i + 1) := by
  match r with
  | [] => rfl
  | d :: r => rw [txF, if_neg (by omega), if_pos hc]
theorem txF_end {r acc : List UInt8} {i : Nat} (h : acc.length ≤ 32) : txF (0 :: 0 :: r) acc i = some (acc, i + 2) := by
  rw [txF, if_neg (by omega), if_neg (by simp), if_pos rfl]
theorem txF_nought {r acc : List UInt8} {i : Nat} (h : acc.length ≤ 32) : txF (0 :: 255 :: r) acc i = txF r (acc ++ [0]) (i + 2) := by
  rw [txF, if_neg (by omega), if_neg (by simp), if_neg (by decide), if_neg (by simp)]
theorem txF_bad {d : UInt8} {r acc : List UInt8} {i : Nat} (h0 : d ≠ 0) (h1 : d ≠ 255) : txF (0 :: d :: r) acc i = none := by
  rw [txF]
  split
  · rfl
  · simp
/-- What is told of a text that was read or not. -/
def resT (o : Option (List UInt8 × Nat)) : Value := resF (o.map (fun p => ((2, 0, ⟨p.1.toArray⟩), p.2)))

set_option maxHeartbeats 3200000 in
theorem textOf_go (s : ByteArray) (w : World) (hs : s.size ≤ 140737488355328) (h1s : 1 ≤ s.size) : Calls Try.prog 78 #[.string s] w fun e w' => e = .returned (resT (txF (s.data.toList.drop 1) [] 1)) ∧ Below w.heap.size w w' := by
  have HLEN := Lib.hid (toList_size s)
  go_enter Try.func78, Try.ntmps78
  go_wp2
  go_loopw [5] (fun i wr => ∃ (j : Nat) (acc : List UInt8), j ≤ s.size ∧ i = .int .i64 j ∧ acc.length ≤ 33 ∧ Hid (Lib.IsBuilderF 134 5 (w.heap.size + 1) (w.heap.size + 1) (Lib.byteCells acc) wr) ∧ Below (w.heap.size + 1) (w.alloc (.cells #[.int .i64 0, .int .i64 0, .string ⟨#[]⟩, .slice none 0 0] 33)) wr ∧ w.heap.size + 1 < wr.heap.size ∧ Hid (txF (s.data.toList.drop 1) [] 1 = txF (s.data.toList.drop j) acc j)) (fun i _ => s.size - (intOf i).toNat)
  case atStart => exact ⟨1, [], h1s, rfl, by simp, Lib.hid (fresh_above _ _), (Below.refl _ _).alloc (by simp) _, by simp, Lib.hid rfl⟩
  case round =>
    obtain ⟨j, acc, hj, rfl, hacc, HI, hb, hsz, HC⟩ := hrel
    obtain ⟨c0, c1, c2, c3⟩ := box_cells hb
    obtain ⟨f0, f1, f2, f3⟩ := box_frozen hb
    have HB := Lib.hid hb; clear hb
    have HBW : Hid (Below w.heap.size w wr) := Lib.hid (below_al _ (by simpa using HB.out))
    by_cases hlt : j < s.size
    · have hlt' : j < s.data.toList.length := hlt
      by_cases ha : acc.length ≤ 32
      · have hd : s.data.toList.drop j = s[j] :: s.data.toList.drop (j + 1) := List.drop_eq_getElem_cons hlt'
        by_cases h0 : s[j] = 0
        · have b0 : ((s[j].toNat : Int) != 0) = false := by rw [h0]; rfl
          have HD := Lib.hid hd; have H0 := Lib.hid h0; clear hd h0
          by_cases hend : j + 1 = s.size
          · have HN : Hid (txF (s.data.toList.drop 1) [] 1 = none) := Lib.hid (by
              rw [HC.out, HD.out, List.drop_eq_nil_of_le (by have := HLEN.out; omega)]
              rfl)
            have hend' : ((j : Int) + 1 == (s.size : Int)) = true := by rw [beq_iff_eq]; omega
            go_wp2_with fail
            refine (blen _ _ _ _ HI.out).mono ?_
            rintro e w' ⟨rfl, rfl⟩
            go_wp2_with fail
            refine bodyPost_ret (v := .tuple #[.agg #[.int .i64 0, .int .i64 0, .string ⟨#[]⟩, .slice none 0 0], .int .i64 0]) (by simp [results, Try.results78, go_sem, c0, c1, c2, c3]) rfl ⟨by rw [HN.out]; rfl, below_res HBW.out⟩
          · have hlt2 : j + 1 < s.size := by omega
            have hend' : ((j : Int) + 1 == (s.size : Int)) = false := by rw [beq_eq_false_iff_ne]; omega
            have hd2 : s.data.toList.drop (j + 1) = s[j + 1] :: s.data.toList.drop (j + 1 + 1) := List.drop_eq_getElem_cons (by have := HLEN.out; omega)
            by_cases g0 : s[j + 1] = 0
            · have b1 : ((s[j + 1].toNat : Int) == 0) = true := by rw [g0]; rfl
              have HN : Hid (txF (s.data.toList.drop 1) [] 1 = some (acc, j + 2)) := Lib.hid (by
                rw [HC.out, HD.out, hd2, H0.out, g0, txF_end ha])
              clear hd2 g0
              go_wp2_with fail
              refine (blen _ _ _ _ HI.out).mono ?_
              rintro e w' ⟨rfl, rfl⟩
              go_wp2_with fail
              refine (Try.Builder_String_any_k (w.heap.size + 1) (w.heap.size + 1) _ _ HI.out (by omega)).mono ?_
              rintro e w1 ⟨rfl, h1, hb1, hk1⟩
              have HB1 := Lib.hid (HB.out.trans hb1)
              obtain ⟨d0, d1, d2, d3⟩ := box_cells HB1.out
              obtain ⟨g0, g1, g2, g3⟩ := box_frozen HB1.out
              have HBW1 : Hid (Below w.heap.size w w1) := Lib.hid (below_al _ (by simpa using HB1.out))
              go_wp2
              refine bodyPost_ret (v := .tuple #[.agg #[.int .i64 2, .int .i64 0, .string ⟨acc.toArray⟩, .slice none 0 0], .int .i64 ((j + 2 : Nat) : Int)]) (by simp [results, Try.results78, go_sem, d0, d1, d2, d3]; omega) rfl ⟨by rw [HN.out]; rfl, below_res HBW1.out⟩
            · have b1 : ((s[j + 1].toNat : Int) == 0) = false := u8_not (c := 0) g0
              by_cases g1 : s[j + 1] = 255
              · have b2 : ((s[j + 1].toNat : Int) != 255) = false := by rw [g1]; rfl
                have HN : Hid (txF (s.data.toList.drop 1) [] 1 = txF (s.data.toList.drop (j + 2)) (acc ++ [0]) (j + 2)) := Lib.hid (by
                  rw [HC.out, HD.out, hd2, H0.out, g1, txF_nought ha])
                clear hd2 g0 g1
                go_wp2_with fail
                refine (blen _ _ _ _ HI.out).mono ?_
                rintro e w' ⟨rfl, rfl⟩
                go_wp2_with fail
                refine (writeByte_k (w.heap.size + 1) (w.heap.size + 1) _ 0 _ HI.out (by rw [Lib.byteCells_length]; omega) (by omega)).mono ?_
                rintro e w1 ⟨rfl, h1, hb1, hk1⟩
                have HI1 : Hid (Lib.IsBuilderF 134 5 (w.heap.size + 1) (w.heap.size + 1) (Lib.byteCells (acc ++ [0])) w1) := Lib.hid (by rw [Lib.byteCells_append]; exact .inr h1)
                have HB1 := Lib.hid (HB.out.trans hb1)
                have hz1 := hb1.size
                clear h1 hb1 hk1
                go_wp2
                go_roundw
                case rel => exact ⟨j + 2, acc ++ [0], by omega, by go_num, by simp; omega, HI1, HB1.out, by omega, HN⟩
                case measure => simp [intOf]; omega
              · have b2 : ((s[j + 1].toNat : Int) != 255) = true := by
                  have := u8_not (c := 255) g1
                  rw [bne, show (255 : Int) = ((255 : UInt8).toNat : Int) from rfl, this]
                  rfl
                have HN : Hid (txF (s.data.toList.drop 1) [] 1 = none) := Lib.hid (by
                  rw [HC.out, HD.out, hd2, H0.out, txF_bad g0 g1])
                clear hd2 g0 g1
                go_wp2_with fail
                refine (blen _ _ _ _ HI.out).mono ?_
                rintro e w' ⟨rfl, rfl⟩
                go_wp2_with fail
                refine bodyPost_ret (v := .tuple #[.agg #[.int .i64 0, .int .i64 0, .string ⟨#[]⟩, .slice none 0 0], .int .i64 0]) (by simp [results, Try.results78, go_sem, c0, c1, c2, c3]) rfl ⟨by rw [HN.out]; rfl, below_res HBW.out⟩
        · have b0 : ((s[j].toNat : Int) != 0) = true := by
            have := u8_not (c := 0) h0
            rw [bne, show (0 : Int) = ((0 : UInt8).toNat : Int) from rfl, this]
            rfl
          have HN : Hid (txF (s.data.toList.drop 1) [] 1 = txF (s.data.toList.drop (j + 1)) (acc ++ [s[j]]) (j + 1)) := Lib.hid (by
            rw [HC.out, hd, txF_plain ha h0])
          clear hd h0
          go_wp2_with fail
          refine (blen _ _ _ _ HI.out).mono ?_
          rintro e w' ⟨rfl, rfl⟩
          go_wp2_with fail
          refine (writeByte_k (w.heap.size + 1) (w.heap.size + 1) _ _ _ HI.out (by rw [Lib.byteCells_length]; omega) (by omega)).mono ?_
          rintro e w1 ⟨rfl, h1, hb1, hk1⟩
          have HI1 : Hid (Lib.IsBuilderF 134 5 (w.heap.size + 1) (w.heap.size + 1) (Lib.byteCells (acc ++ [s[j]])) w1) := Lib.hid (by rw [Lib.byteCells_append]; exact .inr h1)
          have HB1 := Lib.hid (HB.out.trans hb1)
          have hz1 := hb1.size
          clear h1 hb1 hk1
          go_wp2
          go_roundw
          case rel => exact ⟨j + 1, acc ++ [s[j]], by omega, by go_num, by simp; omega, HI1, HB1.out, by omega, HN⟩
          case measure => simp [intOf]; omega
      · have HN : Hid (txF (s.data.toList.drop 1) [] 1 = none) := Lib.hid (by rw [HC.out, txF_full (by omega)])
        go_wp2_with fail
        refine (blen _ _ _ _ HI.out).mono ?_
        rintro e w' ⟨rfl, rfl⟩
        go_wp2
        refine bodyPost_ret (v := .tuple #[.agg #[.int .i64 0, .int .i64 0, .string ⟨#[]⟩, .slice none 0 0], .int .i64 0]) (by simp [results, Try.results78, go_sem, c0, c1, c2, c3]) rfl ⟨by rw [HN.out]; rfl, below_res HBW.out⟩
    · have HN : Hid (txF (s.data.toList.drop 1) [] 1 = none) := Lib.hid (by rw [HC.out, List.drop_eq_nil_of_le (by have := HLEN.out; omega)]; rfl)
      go_wp2
      refine bodyPost_ret (v := .tuple #[.agg #[.int .i64 0, .int .i64 0, .string ⟨#[]⟩, .slice none 0 0], .int .i64 0]) (by simp [results, Try.results78, go_sem, c0, c1, c2, c3]) rfl ⟨by rw [HN.out]; rfl, below_res HBW.out⟩

theorem size_cons {s : ByteArray} {c : UInt8} {r : List UInt8} (h : s.data.toList = c :: r) : s.size = 1 + r.length := by
  have : s.data.toList.length = s.size := rfl
  rw [← this, h, List.length_cons]
  omega
theorem first_cons {s : ByteArray} {c : UInt8} {r : List UInt8} (h : s.data.toList = c :: r) (h0 : 0 < s.size) : s[0] = c := by
  have e : s.data.toList[0]'(by rw [h]; simp) = c := by simp [h]
  exact (show s[0] = s.data.toList[0]'(by rw [h]; simp) from rfl).trans e
theorem resF_form (o : Option ((Int × Int × ByteArray) × Nat)) : ∃ (k n : Int) (t : ByteArray) (m : Int), resF o = .tuple #[.agg #[.int .i64 k, .int .i64 n, .string t, .slice none 0 0], .int .i64 m] := by
  rcases o with _ | ⟨⟨k, n, t⟩, m⟩
  · exact ⟨0, 0, _, 0, rfl⟩
  · exact ⟨k, n, t, m, rfl⟩

set_option maxHeartbeats 1600000 in
theorem itemOf_any (s : ByteArray) (w : World) (hs : s.size ≤ 140737488355328) : Calls Try.prog 62 #[.string s] w fun e w' => e = .returned (resF (itF s.data.toList)) ∧ Below w.heap.size w w' := by
  match hl : s.data.toList with
  | [] =>
    obtain rfl : s = ⟨#[]⟩ := ByteArray.ext (by simpa using hl)
    clear hl
    go_enter Try.func62, Try.ntmps62
    go_wp2
    refine bodyPost_ret (v := .tuple #[.agg #[.int .i64 0, .int .i64 0, .string ⟨#[]⟩, .slice none 0 0], .int .i64 0]) (by simp [results, Try.results62, go_sem]) rfl ⟨rfl, by first | exact (Below.refl _ _).alloc (Nat.le_refl _) _ | exact below_res ((Below.refl _ _).alloc (Nat.le_refl _) _)⟩
  | c :: r =>
    have hsz := size_cons hl
    have h0 : 0 < s.size := by omega
    have hf := first_cons hl h0
    have hne : s.toList ≠ [] := by rw [ByteArray.toList_eq, hl]; simp
    have hne2 : s.toList.isEmpty = false := by rw [ByteArray.toList_eq, hl]; rfl
    obtain ⟨k, n, t, m, hres⟩ := resF_form (itF (c :: r))
    rw [hres]
    by_cases h1 : c = 1
    · have b1 : ((s[0].toNat : Int) == 1) = true := by rw [hf, h1]; rfl
      have HC := Lib.hid (intOf_any s · r (by rw [hl, h1]))
      have HR : Hid (resF (itF s.data.toList) = .tuple #[.agg #[.int .i64 k, .int .i64 n, .string t, .slice none 0 0], .int .i64 m]) := Lib.hid (by rw [hl, hres])
      clear hl hf hres
      go_enter Try.func62, Try.ntmps62
      go_wp2_with fail
      refine (HC.out _).mono ?_
      rw [HR.out]
      rintro e w1 ⟨rfl, hb⟩
      obtain ⟨c0, c1, c2, c3⟩ := box_cells (by simpa using hb)
      obtain ⟨f0, f1, f2, f3⟩ := box_frozen (by simpa using hb)
      have HB := Lib.hid (below_al _ hb); clear hb
      go_wp2
      exact bodyPost_ret (v := .tuple #[.agg #[.int .i64 k, .int .i64 n, .string t, .slice none 0 0], .int .i64 m]) (by simp [results, Try.results62, go_sem, c0, c1, c2, c3]) rfl ⟨rfl, below_res HB.out⟩
    · have b1 : ((s[0].toNat : Int) == 1) = false := by rw [hf]; exact u8_not (c := 1) h1
      by_cases h2 : c = 2
      · have b2 : ((s[0].toNat : Int) == 2) = true := by rw [hf, h2]; rfl
        have HC := Lib.hid (textOf_go s · hs (by omega))
        have HR : Hid (resT (txF (s.data.toList.drop 1) [] 1) = .tuple #[.agg #[.int .i64 k, .int .i64 n, .string t, .slice none 0 0], .int .i64 m]) := Lib.hid (by rw [← hres, hl, itF, if_neg h1, if_pos h2]; rfl)
        clear hl hf hres
        go_enter Try.func62, Try.ntmps62
        go_wp2_with fail
        refine (HC.out _).mono ?_
        rw [HR.out]
        rintro e w1 ⟨rfl, hb⟩
        obtain ⟨c0, c1, c2, c3⟩ := box_cells (by simpa using hb)
        obtain ⟨f0, f1, f2, f3⟩ := box_frozen (by simpa using hb)
        have HB := Lib.hid (below_al _ hb); clear hb
        go_wp2
        exact bodyPost_ret (v := .tuple #[.agg #[.int .i64 k, .int .i64 n, .string t, .slice none 0 0], .int .i64 m]) (by simp [results, Try.results62, go_sem, c0, c1, c2, c3]) rfl ⟨rfl, below_res HB.out⟩
      · have b2 : ((s[0].toNat : Int) == 2) = false := by rw [hf]; exact u8_not (c := 2) h2
        have HR : Hid (Ending.returned (.tuple #[.agg #[.int .i64 0, .int .i64 0, .string ⟨#[]⟩, .slice none 0 0], .int .i64 0]) = .returned (.tuple #[.agg #[.int .i64 k, .int .i64 n, .string t, .slice none 0 0], .int .i64 m])) := Lib.hid (by rw [← hres, itF, if_neg h1, if_neg h2]; rfl)
        clear hl hf hres
        go_enter Try.func62, Try.ntmps62
        go_wp2
        refine bodyPost_ret (v := .tuple #[.agg #[.int .i64 0, .int .i64 0, .string ⟨#[]⟩, .slice none 0 0], .int .i64 0]) (by simp [results, Try.results62, go_sem]) rfl ⟨HR.out, by first | exact (Below.refl _ _).alloc (Nat.le_refl _) _ | exact below_res ((Below.refl _ _).alloc (Nat.le_refl _) _)⟩
end Go.Proofs.Ytnghhhmhinailaa.Dm
