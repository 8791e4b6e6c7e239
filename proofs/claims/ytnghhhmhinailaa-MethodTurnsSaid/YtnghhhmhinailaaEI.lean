/- A datum's bytes, whatever stands behind them, begin with that datum: in plain words. No condition. -/
import Derived.Test.YtnghhhmhinailaaEH
import Derived.Test.YtnghhhmhinailaaDD
set_option maxRecDepth 100000
namespace Go.Proofs.Ytnghhhmhinailaa.Dm
open Go Go.RowKit

theorem toI_back (n : Int) (hn : I64 n) (u : Nat) (hu : (u : Int) = n + 9223372036854775808) : toI u = n := by
  obtain ⟨h1, h2⟩ := hn
  have h := uOf_eq (wrap64 (u : Int)) (by unfold wrap64; omega) (by unfold wrap64; omega)
  unfold uOf at h
  rw [IntKind.wrap_u64, show wrap64 (u : Int) % 18446744073709551616 = (u : Int) by unfold wrap64; omega] at h
  unfold toI
  rw [h]
  unfold wrap64
  omega

theorem intB_list (n : Int) : intB n = [byt (uOf n / 72057594037927936), byt (uOf n / 281474976710656), byt (uOf n / 1099511627776), byt (uOf n / 4294967296), byt (uOf n / 16777216), byt (uOf n / 65536), byt (uOf n / 256), byt (uOf n)] := by
  simp [intB, intTo, List.range, List.range.loop]
theorem ivF_back (n : Int) (hn : I64 n) : ((ivF (intB n) : Nat) : Int) = n + 9223372036854775808 := by
  have hu := uOf_eq n hn.1 hn.2
  obtain ⟨h1, h2⟩ := hn
  rw [intB_list]
  obtain ⟨U, hU⟩ : ∃ U, U = uOf n := ⟨_, rfl⟩
  rw [← hU] at hu ⊢
  have b7 := byt_nat (U / 72057594037927936)
  have b6 := byt_nat (U / 281474976710656)
  have b5 := byt_nat (U / 1099511627776)
  have b4 := byt_nat (U / 4294967296)
  have b3 := byt_nat (U / 16777216)
  have b2 := byt_nat (U / 65536)
  have b1 := byt_nat (U / 256)
  have b0 := byt_nat U
  simp only [ivF, List.foldl_cons, List.foldl_nil]
  omega

theorem txF_back : ∀ (t acc : List UInt8) (i : Nat) (tail : List UInt8), acc.length + t.length ≤ 32 → txF (textTo t ++ 0 :: 0 :: tail) acc i = some (acc ++ t, i + (textTo t).length + 2)
  | [], acc, i, tail, h => by
    simp only [textTo, List.flatMap_nil, List.nil_append, List.append_nil, List.length_nil, Nat.add_zero]
    exact txF_end (by simpa using h)
  | c :: t, acc, i, tail, h => by
    have hstep : textTo (c :: t) = (if c = 0 then [0, 255] else [c]) ++ textTo t := by simp [textTo]
    simp only [List.length_cons] at h
    rw [hstep]
    by_cases hc : c = 0
    · subst hc
      rw [if_pos rfl]
      simp only [List.cons_append, List.nil_append]
      rw [txF_nought (by omega), txF_back t (acc ++ [0]) (i + 2) tail (by simp; omega)]
      simp only [List.append_assoc, List.cons_append, List.nil_append, List.length_cons]
      rw [show i + 2 + (textTo t).length + 2 = i + ((textTo t).length + 1 + 1) + 2 by omega]
    · rw [if_neg hc]
      simp only [List.cons_append, List.nil_append]
      rw [txF_plain (by omega) hc, txF_back t (acc ++ [c]) (i + 1) tail (by simp; omega)]
      simp only [List.append_assoc, List.cons_append, List.nil_append, List.length_cons]
      rw [show i + 1 + (textTo t).length + 2 = i + ((textTo t).length + 1) + 2 by omega]

theorem itF_back (k n : Int) (s : ByteArray) (tail : List UInt8) (hok : itemOk k n s 0 = true) (hn : I64 n) : itF (itemB k n s ++ tail) = some ((k, n, s), (itemB k n s).length) := by
  obtain ⟨_, ⟨rfl, hs⟩ | ⟨rfl, rfl, hs⟩⟩ := itemOk_true hok
  · have he : s = ⟨#[]⟩ := by
      rw [ByteArray.toList_eq] at hs
      have : s.data.toList = [] := by simpa using hs
      exact ByteArray.ext (by simpa using this)
    have hlen : (intB n).length = 8 := intTo_length n 8
    rw [itemB, if_pos rfl, List.cons_append, itF, if_pos rfl, if_neg (by rw [List.length_append]; omega), List.take_append_of_le_length (by omega), List.take_of_length_le (by omega), toI_back n hn _ (ivF_back n hn), List.length_cons, hlen, he]
  · have hl : s.data.toList.length = s.size := rfl
    rw [itemB, if_neg (by decide), List.cons_append, itF, if_neg (by decide), if_pos rfl, textB, List.append_assoc]
    have := txF_back s.data.toList [] 1 tail (by simp only [List.length_nil]; omega)
    simp only [List.cons_append, List.nil_append] at this ⊢
    rw [this]
    simp only [Option.map_some, List.length_cons, List.length_append, List.length_nil]
    congr 2
    omega

theorem isF_back : ∀ (xs : List It) (tail : List UInt8), (∀ x ∈ xs, x.ok = true) → AllI xs → isF xs.length (itemsB xs ++ tail) = some (xs.map cont, (itemsB xs).length)
  | [], tail, _, _ => by simp [isF, itemsB]
  | x :: xs, tail, h, hi => by
    have hx := itemOk_true (h x (by simp))
    have e : itemsB (x :: xs) = itemB x.k x.n x.s ++ itemsB xs := by simp [itemsB]
    have ih := isF_back xs tail (fun y hy => h y (by simp [hy])) (fun y hy => hi y (by simp [hy]))
    rw [List.length_cons, e, List.append_assoc, isF_step (itF_back x.k x.n x.s (itemsB xs ++ tail) (itemOk_of ⟨by omega, hx.2⟩) (hi x (by simp))), List.drop_left, ih]
    simp [cont]

/-- A datum's bytes are read as that datum. -/
theorem ofF_back (k n : Int) (s : ByteArray) (xs : List It) (tail : List UInt8) (hok : dOk k n s xs = true) (hn : I64 n) (hns : AllI xs) : ofF (datB k n s xs ++ tail) = some ((k, n, s), xs.map cont, (datB k n s xs).length) := by
  by_cases hk : k = 3
  · subst hk
    rw [dOk, if_pos rfl] at hok
    obtain ⟨rfl, hs, hlen, hall⟩ := listOk_parts hok
    have he : s = ⟨#[]⟩ := by
      rw [ByteArray.toList_eq] at hs
      have : s.data.toList = [] := by simpa using hs
      exact ByteArray.ext (by simpa using this)
    have hb : (byt xs.length).toNat = xs.length := by have := byt_nat xs.length; omega
    rw [datB, if_pos rfl, List.cons_append, List.cons_append, ofF, if_pos List.head?_cons, lsF, if_neg (by omega), hb, isF_back xs tail hall hns, he]
    simp only [Option.map_some, List.length_cons]
    congr 3
    omega
  · obtain ⟨rfl, hit⟩ := items_none hok hk
    have hh : (itemB k n s ++ tail).head? ≠ some 3 := by
      unfold itemB
      split <;> simp
    rw [datB, if_neg hk, ofF, if_neg hh, itF_back k n s tail hit hn]
    rfl
end Go.Proofs.Ytnghhhmhinailaa.Dm
