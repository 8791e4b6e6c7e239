/- Texts of the same proof, one behind the other: EH, EI, AA, AB. -/
import Derived.Test.YtijggofelepaaaaGreatDoorCDC
import Derived.Test.YtijggofelepaaaaGreatDoorCDA
/- The contract of the program's Of: the datum that the bytes begin with; other memory stands. -/
set_option maxRecDepth 100000
namespace Go.Proofs.YtijggofelepaaaaGreatDoor.Dm
open Go Go.RowKit

/-- The datum that bytes begin with, its items, and how many bytes it has. -/
def ofF (l : List UInt8) : Option ((Int × Int × ByteArray) × List (Int × Int × ByteArray) × Nat) :=
  if l.head? = some 3 then (lsF l).map fun p => ((3, 0, ⟨#[]⟩), p.1, p.2) else (itF l).map fun p => (p.1, [], p.2)

/-- What Of leaves. -/
def OfPost (s : List UInt8) (w : World) (e : Ending) (w' : World) : Prop :=
  Below w.heap.size w w' ∧
  ((ofF s = none ∧ e = .returned (.tuple #[.agg #[.int .i64 0, .int .i64 0, .string ⟨#[]⟩, .slice none 0 0], .int .i64 0, .int .i64 11])) ∨
   ∃ (k n : Int) (t : ByteArray) (a : Option Addr) (xs : List It) (lc m : Nat), ofF s = some ((k, n, t), xs.map cont, m) ∧ e = .returned (.tuple #[.agg #[.int .i64 k, .int .i64 n, .string t, .slice a xs.length lc], .int .i64 m, .int .i64 0]) ∧ I64 n ∧ Fre xs ∧ xs.length ≤ 8 ∧ SlG w.heap.size w' a xs)

set_option maxHeartbeats 1600000 in
theorem of_item (s : ByteArray) (w : World) (hs : s.size ≤ 140737488355328) (h3 : s.data.toList.head? ≠ some 3) : Calls Tryz.prog 72 #[.string s] w (OfPost s.data.toList w) := by
  have HLEN := Lib.hid (toList_size s)
  have HO : Hid (ofF s.data.toList = (itF s.data.toList).map fun p => (p.1, [], p.2)) := Lib.hid (by rw [ofF, if_neg h3])
  have hcond : s.size = 0 ∨ ∃ h : 0 < s.size, ((s[0].toNat : Int) == 3) = false := by
    match hl : s.data.toList with
    | [] => exact .inl (by have := HLEN.out; rw [hl] at this; simpa using this.symm)
    | c :: r =>
      have h0 : 0 < s.size := by have := size_cons hl; omega
      refine .inr ⟨h0, ?_⟩
      rw [first_cons hl h0]
      exact u8_not (c := 3) (fun h => h3 (by rw [hl, h]; rfl))
  clear h3
  match hit : itF s.data.toList with
  | none =>
    have HIT := Lib.hid hit; clear hit
    have HN : Hid (ofF s.data.toList = none) := Lib.hid (by rw [HO.out, HIT.out]; rfl)
    rcases hcond with hz | ⟨hz, hb3⟩
    all_goals
      go_enter Tryz.func72, Tryz.ntmps72
      go_wp2_with fail
      refine (itemOf_any _ _ hs).mono ?_
      rw [HIT.out]
      rintro e w1 ⟨rfl, hb⟩
      have hz1 := hb.size
      simp only [World.size_alloc] at hz1
      have HB1 := Lib.hid ((show Below (w.heap.size + 1) _ w1 from by simpa using hb).alloc (by omega) (.cells #[.int .i64 0, .int .i64 0, .string ⟨#[]⟩, .slice none 0 0] 130)); clear hb
      obtain ⟨c0, c1, c2, c3⟩ := box_cells HB1.out
      obtain ⟨f0, f1, f2, f3⟩ := box_frozen HB1.out
      have HBW : Hid (Below w.heap.size w (w1.alloc (.cells #[.int .i64 0, .int .i64 0, .string ⟨#[]⟩, .slice none 0 0] 130))) := Lib.hid (below_al _ (by simpa using HB1.out))
      rw [resF]
      go_wp2
      exact bodyPost_ret (v := .tuple #[.agg #[.int .i64 0, .int .i64 0, .string ⟨#[]⟩, .slice none 0 0], .int .i64 0, .int .i64 11]) (by simp [results, Tryz.results72, go_sem, c0, c1, c2, c3]) rfl ⟨below_res HBW.out, .inl ⟨HN.out, rfl⟩⟩
  | some ((k, n, t), m) =>
    obtain ⟨hn, hm1, hm2⟩ := itF_some hit
    have hmz : ((m : Int) == 0) = false := by rw [beq_eq_false_iff_ne]; omega
    have HIT := Lib.hid hit; have HNN := Lib.hid hn; clear hit hn
    have HN : Hid (ofF s.data.toList = some ((k, n, t), ([] : List It).map cont, m)) := Lib.hid (by rw [HO.out, HIT.out]; rfl)
    rcases hcond with hz | ⟨hz, hb3⟩
    all_goals
      go_enter Tryz.func72, Tryz.ntmps72
      go_wp2_with fail
      refine (itemOf_any _ _ hs).mono ?_
      rw [HIT.out]
      rintro e w1 ⟨rfl, hb⟩
      have hz1 := hb.size
      simp only [World.size_alloc] at hz1
      have HB1 := Lib.hid ((show Below (w.heap.size + 1) _ w1 from by simpa using hb).alloc (by omega) (.cells #[.int .i64 k, .int .i64 n, .string t, .slice none 0 0] 130)); clear hb
      obtain ⟨c0, c1, c2, c3⟩ := box_cells HB1.out
      obtain ⟨f0, f1, f2, f3⟩ := box_frozen HB1.out
      have HBW : Hid (Below w.heap.size w (w1.alloc (.cells #[.int .i64 k, .int .i64 n, .string t, .slice none 0 0] 130))) := Lib.hid (below_al _ (by simpa using HB1.out))
      rw [resF]
      go_wp2
      exact bodyPost_ret (v := .tuple #[.agg #[.int .i64 k, .int .i64 n, .string t, .slice none 0 0], .int .i64 m, .int .i64 0]) (by simp [results, Tryz.results72, go_sem, c0, c1, c2, c3]) rfl ⟨below_res HBW.out, .inr ⟨k, n, t, none, [], 0, m, HN.out, rfl, HNN.out, (fun x hx => by simp at hx), by simp, .inl rfl⟩⟩

set_option maxHeartbeats 1600000 in
theorem of_list (s : ByteArray) (w : World) (hs : s.size ≤ 140737488355328) (h3 : s.data.toList.head? = some 3) : Calls Tryz.prog 72 #[.string s] w (OfPost s.data.toList w) := by
  have HLEN := Lib.hid (toList_size s)
  have HO : Hid (ofF s.data.toList = (lsF s.data.toList).map fun p => ((3, 0, ⟨#[]⟩), p.1, p.2)) := Lib.hid (by rw [ofF, if_pos h3])
  obtain ⟨r, hl⟩ : ∃ r, s.data.toList = 3 :: r := by
    match hl : s.data.toList with
    | [] => rw [hl] at h3; cases h3
    | c :: r => rw [hl] at h3; injection h3 with h3; exact ⟨r, by rw [h3]⟩
  have h0 : 0 < s.size := by have := size_cons hl; omega
  have hb3 : ((s[0].toNat : Int) == 3) = true := by rw [first_cons hl h0]; rfl
  have HIT : Hid (itF s.data.toList = none) := Lib.hid (by rw [hl, itF, if_neg (by decide), if_neg (by decide)])
  clear h3 hl
  go_enter Tryz.func72, Tryz.ntmps72
  go_wp2_with fail
  refine (itemOf_any _ _ hs).mono ?_
  rw [HIT.out]
  rintro e w1 ⟨rfl, hb⟩
  have hz1 := hb.size
  simp only [World.size_alloc] at hz1
  have HB1 := Lib.hid ((show Below (w.heap.size + 1) _ w1 from by simpa using hb).alloc (by omega) (.cells #[.int .i64 0, .int .i64 0, .string ⟨#[]⟩, .slice none 0 0] 130)); clear hb
  rw [resF]
  go_wp2_with fail
  refine (listOf_any _ _ hs).mono ?_
  rintro e w2 ⟨hb2, hpost⟩
  have HP := Lib.hid hpost; clear hpost
  have hz2 := hb2.size
  simp only [World.size_alloc] at hz2
  obtain ⟨e0, e1, e2, e3⟩ := box_cells (w := w1) (by simpa using hb2)
  obtain ⟨g0, g1, g2, g3⟩ := box_frozen (w := w1) (by simpa using hb2)
  have HB2 := Lib.hid (HB1.out.trans (hb2.mono (by simp only [World.size_alloc]; omega))); clear hb2
  obtain ⟨c0, c1, c2, c3⟩ := box_cells HB2.out
  obtain ⟨f0, f1, f2, f3⟩ := box_frozen HB2.out
  have HBW : Hid (Below w.heap.size w w2) := Lib.hid (below_al _ (by simpa using HB2.out))
  have hne : w1.heap.size ≠ w.heap.size := by omega
  have hne' : w.heap.size ≠ w1.heap.size := by omega
  rcases HP.out with ⟨hno, rfl⟩ | ⟨a, xs, lc, m, hl, hm1, rfl, hfr, h8, hsl⟩
  · have HN : Hid (ofF s.data.toList = none) := Lib.hid (by rw [HO.out, hno]; rfl)
    clear hno HP
    go_wp2
    exact bodyPost_ret (v := .tuple #[.agg #[.int .i64 0, .int .i64 0, .string ⟨#[]⟩, .slice none 0 0], .int .i64 0, .int .i64 11]) (by simp [results, Tryz.results72, go_sem, c0, c1, c2, c3]) rfl ⟨below_set4 (below_set4 HBW.out (by omega) _ _ _ _) (Nat.le_refl _) _ _ _ _, .inl ⟨HN.out, rfl⟩⟩
  · have HN : Hid (ofF s.data.toList = some ((3, 0, ⟨#[]⟩), xs.map cont, m)) := Lib.hid (by rw [HO.out, hl]; rfl)
    have hmz : ((m : Int) == 0) = false := by rw [beq_eq_false_iff_ne]; omega
    have HFR := Lib.hid hfr
    have HSL := Lib.hid (show SlG (w1.heap.size + 1) w2 a xs by simpa using hsl)
    clear hl hfr hsl HP
    go_wp2
    exact bodyPost_ret (v := .tuple #[.agg #[.int .i64 3, .int .i64 0, .string ⟨#[]⟩, .slice a xs.length lc], .int .i64 m, .int .i64 0]) (by simp [results, Tryz.results72, go_sem, c0, c1, c2, c3]) rfl ⟨below_set4 (below_set4 HBW.out (by omega) _ _ _ _) (Nat.le_refl _) _ _ _ _, .inr ⟨3, 0, _, a, xs, lc, m, HN.out, rfl, ⟨by decide, by decide⟩, HFR.out, h8, ((HSL.out.setCells (by omega) _ _ _ _).setCells (by omega) _ _ _ _).weak (by omega)⟩⟩

theorem of_any (s : ByteArray) (w : World) (hs : s.size ≤ 140737488355328) : Calls Tryz.prog 72 #[.string s] w (OfPost s.data.toList w) := by
  by_cases h3 : s.data.toList.head? = some 3
  · exact of_list s w hs h3
  · exact of_item s w hs h3
end Go.Proofs.YtijggofelepaaaaGreatDoor.Dm

/- A datum's bytes, whatever stands behind them, begin with that datum: in plain words. No condition. -/
set_option maxRecDepth 100000
namespace Go.Proofs.YtijggofelepaaaaGreatDoor.Dm
open Go Go.RowKit

theorem toI_back (n : Int) (hn : I64 n) (u : Nat) (hu : (u : Int) = n + 9223372036854775808) : toI u = n := by
  obtain ⟨h1, h2⟩ := hn
  have h := uOf_eq (wrap64 (u : Int)) (by unfold wrap64; omega) (by unfold wrap64; omega)
  unfold uOf at h
  rw [IntKind.wrap_u64, show wrap64 (u : Int) % 18446744073709551616 = (u : Int) by unfold wrap64; omega] at h
  unfold toI
  rw [h]
  unfold wrap64
  omega

theorem intB_list (n : Int) : intB n = [byt (uOf n / 72057594037927936), byt (uOf n / 281474976710656), byt (uOf n / 1099511627776), byt (uOf n / 4294967296), byt (uOf n / 16777216), byt (uOf n / 65536), byt (uOf n / 256), byt (uOf n)] := by
  simp [intB, intTo, List.range, List.range.loop]
theorem ivF_back (n : Int) (hn : I64 n) : ((ivF (intB n) : Nat) : Int) = n + 9223372036854775808 := by
  have hu := uOf_eq n hn.1 hn.2
  obtain ⟨h1, h2⟩ := hn
  rw [intB_list]
  obtain ⟨U, hU⟩ : ∃ U, U = uOf n := ⟨_, rfl⟩
  rw [← hU] at hu ⊢
  have b7 := byt_nat (U / 72057594037927936)
  have b6 := byt_nat (U / 281474976710656)
  have b5 := byt_nat (U / 1099511627776)
  have b4 := byt_nat (U / 4294967296)
  have b3 := byt_nat (U / 16777216)
  have b2 := byt_nat (U / 65536)
  have b1 := byt_nat (U / 256)
  have b0 := byt_nat U
  simp only [ivF, List.foldl_cons, List.foldl_nil]
  omega

theorem txF_back : ∀ (t acc : List UInt8) (i : Nat) (tail : List UInt8), acc.length + t.length ≤ 32 → txF (textTo t ++ 0 :: 0 :: tail) acc i = some (acc ++ t, i + (textTo t).length + 2)
  | [], acc, i, tail, h => by
    simp only [textTo, List.flatMap_nil, List.nil_append, List.append_nil, List.length_nil, Nat.add_zero]
    exact txF_end (by simpa using h)
  | c :: t, acc, i, tail, h => by
    have hstep : textTo (c :: t) = (if c = 0 then [0, 255] else [c]) ++ textTo t := by simp [textTo]
    simp only [List.length_cons] at h
    rw [hstep]
    by_cases hc : c = 0
    · subst hc
      rw [if_pos rfl]
      simp only [List.cons_append, List.nil_append]
      rw [txF_nought (by omega), txF_back t (acc ++ [0]) (i + 2) tail (by simp; omega)]
      simp only [List.append_assoc, List.cons_append, List.nil_append, List.length_cons]
      rw [show i + 2 + (textTo t).length + 2 = i + ((textTo t).length + 1 + 1) + 2 by omega]
    · rw [if_neg hc]
      simp only [List.cons_append, List.nil_append]
      rw [txF_plain (by omega) hc, txF_back t (acc ++ [c]) (i + 1) tail (by simp; omega)]
      simp only [List.append_assoc, List.cons_append, List.nil_append, List.length_cons]
      rw [show i + 1 + (textTo t).length + 2 = i + ((textTo t).length + 1) + 2 by omega]

theorem itF_back (k n : Int) (s : ByteArray) (tail : List UInt8) (hok : itemOk k n s 0 = true) (hn : I64 n) : itF (itemB k n s ++ tail) = some ((k, n, s), (itemB k n s).length) := by
  obtain ⟨_, ⟨rfl, hs⟩ | ⟨rfl, rfl, hs⟩⟩ := itemOk_true hok
  · have he : s = ⟨#[]⟩ := by
      rw [ByteArray.toList_eq] at hs
      have : s.data.toList = [] := by simpa using hs
      exact ByteArray.ext (by simpa using this)
    have hlen : (intB n).length = 8 := intTo_length n 8
    rw [itemB, if_pos rfl, List.cons_append, itF, if_pos rfl, if_neg (by rw [List.length_append]; omega), List.take_append_of_le_length (by omega), List.take_of_length_le (by omega), toI_back n hn _ (ivF_back n hn), List.length_cons, hlen, he]
  · have hl : s.data.toList.length = s.size := rfl
    rw [itemB, if_neg (by decide), List.cons_append, itF, if_neg (by decide), if_pos rfl, textB, List.append_assoc]
    have := txF_back s.data.toList [] 1 tail (by simp only [List.length_nil]; omega)
    simp only [List.cons_append, List.nil_append] at this ⊢
    rw [this]
    simp only [Option.map_some, List.length_cons, List.length_append, List.length_nil]
    congr 2
    omega

theorem isF_back : ∀ (xs : List It) (tail : List UInt8), (∀ x ∈ xs, x.ok = true) → AllI xs → isF xs.length (itemsB xs ++ tail) = some (xs.map cont, (itemsB xs).length)
  | [], tail, _, _ => by simp [isF, itemsB]
  | x :: xs, tail, h, hi => by
    have hx := itemOk_true (h x (by simp))
    have e : itemsB (x :: xs) = itemB x.k x.n x.s ++ itemsB xs := by simp [itemsB]
    have ih := isF_back xs tail (fun y hy => h y (by simp [hy])) (fun y hy => hi y (by simp [hy]))
    rw [List.length_cons, e, List.append_assoc, isF_step (itF_back x.k x.n x.s (itemsB xs ++ tail) (itemOk_of ⟨by omega, hx.2⟩) (hi x (by simp))), List.drop_left, ih]
    simp [cont]

/-- A datum's bytes are read as that datum. -/
theorem ofF_back (k n : Int) (s : ByteArray) (xs : List It) (tail : List UInt8) (hok : dOk k n s xs = true) (hn : I64 n) (hns : AllI xs) : ofF (datB k n s xs ++ tail) = some ((k, n, s), xs.map cont, (datB k n s xs).length) := by
  by_cases hk : k = 3
  · subst hk
    rw [dOk, if_pos rfl] at hok
    obtain ⟨rfl, hs, hlen, hall⟩ := listOk_parts hok
    have he : s = ⟨#[]⟩ := by
      rw [ByteArray.toList_eq] at hs
      have : s.data.toList = [] := by simpa using hs
      exact ByteArray.ext (by simpa using this)
    have hb : (byt xs.length).toNat = xs.length := by have := byt_nat xs.length; omega
    rw [datB, if_pos rfl, List.cons_append, List.cons_append, ofF, if_pos List.head?_cons, lsF, if_neg (by omega), hb, isF_back xs tail hall hns, he]
    simp only [Option.map_some, List.length_cons]
    congr 3
    omega
  · obtain ⟨rfl, hit⟩ := items_none hok hk
    have hh : (itemB k n s ++ tail).head? ≠ some 3 := by
      unfold itemB
      split <;> simp
    rw [datB, if_neg hk, ofF, if_neg hh, itF_back k n s tail hit hn]
    rfl
end Go.Proofs.YtijggofelepaaaaGreatDoor.Dm

/- The contract of the reference's one: what the bytes hold from a place on; other memory stands. -/
set_option maxRecDepth 100000
namespace Go.Proofs.YtijggofelepaaaaGreatDoor.Dm
open Go Go.RowKit

theorem txF_plain' {c : UInt8} {r acc : List UInt8} {i : Nat} (hc : c ≠ 0) : txF (c :: r) acc i = txF r (acc ++ [c]) (i + 1) := by
  by_cases h : acc.length ≤ 32
  · exact txF_plain h hc
  · rw [txF_full (by omega), txF_full (by simp; omega)]
theorem txF_nought' {r acc : List UInt8} {i : Nat} : txF (0 :: 255 :: r) acc i = txF r (acc ++ [0]) (i + 2) := by
  by_cases h : acc.length ≤ 32
  · exact txF_nought h
  · rw [txF_full (by omega), txF_full (by simp; omega)]
/-- How the reference tells an item that was read from a place on. -/
def resO (at' : Nat) : Option ((Int × Int × ByteArray) × Nat) → Value
  | none => .tuple #[.agg #[.int .i64 0, .int .i64 0, .string ⟨#[]⟩, .slice none 0 0], .int .i64 (-1)]
  | some ((k, n, t), m) => .tuple #[.agg #[.int .i64 k, .int .i64 n, .string t, .slice none 0 0], .int .i64 ((at' + m : Nat) : Int)]

/-- One byte more, on a row however long. -/
theorem wp_app1w {ops : Array Oper} {rest : List Oper} {o : Oper} {a : Act} {Q : Exit → Act → World → Prop} {w : World} (hgd : o.guard = none) (s x : Operand)
    (ho : o.op = .call { callee := .builtin .append, args := #[s, x], argTypes := #[94, 94] }) (B : Nat) (acc : List UInt8) (v : Value) (hs : a.eval s = v) (hown : Row B w v acc) (hB : B ≤ w.heap.size) (hlen : acc.length + 1 ≤ 140737488355328)
    (u : UInt8) (c : Int) (hc : c = (u.toNat : Int)) (hx : a.eval x = .slice (some ⟨w.heap.size, 0, none⟩) 1 1)
    (h : ∀ g cap w', Row B w' (.slice (some ⟨g, 0, none⟩) (acc.length + 1) cap) (acc ++ [u]) → Below B w w' → wpList Tryz.prog ops Q rest (a.put o.dst (.slice (some ⟨g, 0, none⟩) (acc.length + 1) cap)) w') :
    wpList Tryz.prog ops Q (o :: rest) a (w.alloc (.cells #[.int .u8 c] 5)) := by
  subst hc
  obtain ⟨i0, hi, q0, q1, q2⟩ := info_parts infoByte
  refine wpList_append_own _ hgd s x 94 ho B 5 i0 (.int .u8 0) 1 1 Tryz.underlying94 hi q0 q1 q2 rfl (by decide) v acc.length (Lib.byteCells acc) hs (hown.alloc _) ⟨w.heap.size, 0, none⟩ 1 1 [.int .u8 (u.toNat : Int)] hx rfl ?_ ?_ (by unfold maxLen; omega) (by omega) (by rw [World.size_alloc]; omega) ?_
  · intro j u' hj
    match j, hj with
    | 0, hj => simp at hj; subst hj; simp [Addr.add]
  · intro u' hu; simp at hu; subst hu; rfl
  · intro v' w' hown' hgrow _
    obtain ⟨g, cap, rfl⟩ : ∃ g cap, v' = .slice (some ⟨g, 0, none⟩) (acc.length + 1) cap := by
      rcases hown'.2 with ⟨_, h0⟩ | ⟨g, cap, cur, hv, _⟩
      · omega
      · exact ⟨g, cap, hv⟩
    refine h g cap w' ?_ ?_
    · show w'.ownsRow B 5 1 _ (acc ++ [u]).length (Lib.byteCells (acc ++ [u]))
      rw [List.length_append, Lib.byteCells_append, oneByte]
      exact hown'
    · exact ((Below.refl _ _).alloc hB _).grown hgrow (by rw [World.size_alloc]; omega) (fun k hk => (hown.lt k hk).1)

set_option maxHeartbeats 3200000 in
theorem one_text (s : ByteArray) (at' : Nat) (w : World) (hs : s.size ≤ 140737488355000) (hat : at' < s.size) (h2 : s[at'] = 2) : Calls Tryz.prog 124 #[.string s, .int .i64 at'] w fun e w' => e = .returned (resO at' (itF (s.data.toList.drop at'))) ∧ Below w.heap.size w w' := by
  have HLEN := Lib.hid (toList_size s)
  have HIT : Hid (itF (s.data.toList.drop at') = (txF (s.data.toList.drop (at' + 1)) [] 1).map fun p => ((2, 0, ⟨p.1.toArray⟩), p.2)) := Lib.hid (by
    have hd : s.data.toList.drop at' = s[at'] :: s.data.toList.drop (at' + 1) := List.drop_eq_getElem_cons (by have := HLEN.out; omega)
    rw [hd, h2, itF, if_neg (by decide), if_pos rfl])
  have b1 : ((s[at'].toNat : Int) == 1) = false := by rw [h2]; rfl
  have b2 : ((s[at'].toNat : Int) != 2) = false := by rw [h2]; rfl
  have hat2 : ¬ ((s.size : Int) ≤ (at' : Int)) := by omega
  have hat3 : (at' : Int) < (s.size : Int) := by omega
  clear h2
  go_enter Tryz.func124, Tryz.ntmps124
  go_wp2
  go_loopw [5, 10, 11] (fun _ vo vi wr => ∃ (j : Nat) (acc : List UInt8) (v : Value), vo = v ∧ at' + 1 ≤ j ∧ j ≤ s.size ∧ vi = .int .i64 j ∧ acc.length ≤ j ∧ Hid (Row (w.heap.size + 1 + 1) wr v acc) ∧ (acc = [] ∧ v = .slice none 0 0 ∨ ∃ g cap, v = .slice (some ⟨g, 0, none⟩) acc.length cap) ∧ w.heap.size + 1 + 1 ≤ wr.heap.size ∧ Hid (Below (w.heap.size + 1 + 1) ((w.alloc (.cells #[.int .i64 0, .int .i64 0, .string ⟨#[]⟩, .slice none 0 0] 130)).alloc (.cells #[.int .i64 0, .int .i64 0, .string ⟨#[]⟩, .slice none 0 0] 130)) wr) ∧ Hid (txF (s.data.toList.drop (at' + 1)) [] 1 = txF (s.data.toList.drop j) acc (j - at'))) (fun _ _ i _ => s.size - (intOf i).toNat)
  case atStart => exact ⟨at' + 1, [], _, rfl, Nat.le_refl _, by omega, by go_num, by simp, Lib.hid (World.ownsRow_nil _ _ _ _), .inl ⟨rfl, rfl⟩, by simp, Lib.hid (Below.refl _ _), Lib.hid (by rw [show at' + 1 - at' = 1 by omega])⟩
  case round =>
    obtain ⟨j, acc, v, hv, hj1, hj, rfl, hacc, HR, hform, hsz, HB, HC⟩ := hrel
    have hv' := hv.symm
    clear hv
    subst hv'
    obtain ⟨⟨c0, c1, c2, c3⟩, d0, d1, d2, d3⟩ := box_cells2 HB.out
    have HB0 : Hid (Below (w.heap.size + 1) (w.alloc (.cells #[.int .i64 0, .int .i64 0, .string ⟨#[]⟩, .slice none 0 0] 130)) wr) := Lib.hid (((Below.refl _ _).alloc (by simp) _).trans (HB.out.mono (by omega)))
    obtain ⟨f0, f1, f2, f3⟩ := box_frozen HB0.out
    have HBW : Hid (Below w.heap.size w wr) := Lib.hid (below_al _ (by simpa using HB0.out))
    obtain ⟨va, vc, rfl, HCV⟩ : ∃ va vc, v = .slice va acc.length vc ∧ Hid ((convert 94 9 (.slice va acc.length vc)).run Tryz.prog wr = .ok (.string ⟨acc.toArray⟩) wr) := by
      rcases hform with ⟨rfl, rfl⟩ | ⟨g, cap, rfl⟩
      · exact ⟨none, 0, rfl, Lib.hid (by rw [List.length_nil, run_convert_bytes_string wr 94 9 5 none 0 0 Tryz.underlying94 Tryz.underlying5 Tryz.underlying9]; rfl)⟩
      · exact ⟨_, cap, rfl, Lib.hid (conv_row _ _ _ _ _ HR.out)⟩
    clear hform
    by_cases hlt : j < s.size
    · have hlt' : j < s.data.toList.length := hlt
      have hd : s.data.toList.drop j = s[j] :: s.data.toList.drop (j + 1) := List.drop_eq_getElem_cons hlt'
      by_cases h0 : s[j] = 0
      · have b0 : ((s[j].toNat : Int) != 0) = false := by rw [h0]; rfl
        have HD := Lib.hid hd; have H0 := Lib.hid h0; clear hd h0
        by_cases hend : j + 1 < s.size
        · have hd2 : s.data.toList.drop (j + 1) = s[j + 1] :: s.data.toList.drop (j + 1 + 1) := List.drop_eq_getElem_cons (by have := HLEN.out; omega)
          by_cases g1 : s[j + 1] = 255
          · have b2 : ((s[j + 1].toNat : Int) == 255) = true := by rw [g1]; rfl
            have HN : Hid (txF (s.data.toList.drop (at' + 1)) [] 1 = txF (s.data.toList.drop (j + 2)) (acc ++ [0]) (j + 2 - at')) := Lib.hid (by
              rw [HC.out, HD.out, hd2, H0.out, g1, txF_nought', show j - at' + 2 = j + 2 - at' by omega])
            clear hd2 g1
            go_wp2_with (at_builtin; refine wp_app1w rfl _ _ rfl (w.heap.size + 1 + 1) acc _ rfl HR.out hsz (by omega) 0 0 rfl rfl ?_)
            intro g cap w1 ho1 hb1
            have hz1 := hb1.size
            go_wp2
            go_roundw
            case rel => exact ⟨j + 2, acc ++ [0], _, rfl, by omega, by omega, by go_num, by simp; omega, Lib.hid ho1, .inr ⟨g, cap, by simp⟩, by omega, Lib.hid (HB.out.trans hb1), HN⟩
            case measure => simp [intOf]; omega
          · have b2 : ((s[j + 1].toNat : Int) == 255) = false := u8_not (c := 255) g1
            by_cases g0 : s[j + 1] = 0
            · have b3 : ((s[j + 1].toNat : Int) == 0) = true := by rw [g0]; rfl
              by_cases ha : acc.length ≤ 32
              · have HN : Hid (itF (s.data.toList.drop at') = some ((2, 0, ⟨acc.toArray⟩), j + 2 - at')) := Lib.hid (by
                  rw [HIT.out, HC.out, HD.out, hd2, H0.out, g0, txF_end ha, show j - at' + 2 = j + 2 - at' by omega]
                  rfl)
                clear hd2 g1 g0
                have hcv := HCV.out
                go_wp2_with fail
                refine bodyPost_ret (v := .tuple #[.agg #[.int .i64 2, .int .i64 0, .string ⟨acc.toArray⟩, .slice none 0 0], .int .i64 ((j + 2 : Nat) : Int)]) (by simp [results, Tryz.results124, go_sem, c0, c1, c2, c3]) rfl ⟨by rw [HN.out, resO, show at' + (j + 2 - at') = j + 2 by omega], below_res HBW.out⟩
              · have HN : Hid (itF (s.data.toList.drop at') = none) := Lib.hid (by
                  rw [HIT.out, HC.out, txF_full (by omega)]
                  rfl)
                clear hd2 g1 g0
                go_wp2_with fail
                exact bodyPost_ret (v := .tuple #[.agg #[.int .i64 0, .int .i64 0, .string ⟨#[]⟩, .slice none 0 0], .int .i64 (-1)]) (by simp [results, Tryz.results124, go_sem, c0, c1, c2, c3]) rfl ⟨by rw [HN.out]; rfl, below_res HBW.out⟩
            · have b3 : ((s[j + 1].toNat : Int) == 0) = false := u8_not (c := 0) g0
              have HN : Hid (itF (s.data.toList.drop at') = none) := Lib.hid (by
                rw [HIT.out, HC.out, HD.out, hd2, H0.out, txF_bad g0 g1]
                rfl)
              clear hd2 g1 g0
              go_wp2_with fail
              exact bodyPost_ret (v := .tuple #[.agg #[.int .i64 0, .int .i64 0, .string ⟨#[]⟩, .slice none 0 0], .int .i64 (-1)]) (by simp [results, Tryz.results124, go_sem, c0, c1, c2, c3]) rfl ⟨by rw [HN.out]; rfl, below_res HBW.out⟩
        · have HN : Hid (itF (s.data.toList.drop at') = none) := Lib.hid (by
            rw [HIT.out, HC.out, HD.out, List.drop_eq_nil_of_le (by have := HLEN.out; omega)]
            rfl)
          go_wp2_with fail
          exact bodyPost_ret (v := .tuple #[.agg #[.int .i64 0, .int .i64 0, .string ⟨#[]⟩, .slice none 0 0], .int .i64 (-1)]) (by simp [results, Tryz.results124, go_sem, c0, c1, c2, c3]) rfl ⟨by rw [HN.out]; rfl, below_res HBW.out⟩
      · have b0 : ((s[j].toNat : Int) != 0) = true := by
          have := u8_not (c := 0) h0
          rw [bne, show (0 : Int) = ((0 : UInt8).toNat : Int) from rfl, this]
          rfl
        have HN : Hid (txF (s.data.toList.drop (at' + 1)) [] 1 = txF (s.data.toList.drop (j + 1)) (acc ++ [s[j]]) (j + 1 - at')) := Lib.hid (by
          rw [HC.out, hd, txF_plain' h0, show j - at' + 1 = j + 1 - at' by omega])
        clear hd h0
        go_wp2_with (at_builtin; refine wp_app1w rfl _ _ rfl (w.heap.size + 1 + 1) acc _ rfl HR.out hsz (by omega) s[j] _ rfl rfl ?_)
        intro g cap w1 ho1 hb1
        have hz1 := hb1.size
        go_wp2
        go_roundw
        case rel => exact ⟨j + 1, acc ++ [s[j]], _, rfl, by omega, by omega, by go_num, by simp; omega, Lib.hid ho1, .inr ⟨g, cap, by simp⟩, by omega, Lib.hid (HB.out.trans hb1), HN⟩
        case measure => simp [intOf]; omega
    · have HN : Hid (itF (s.data.toList.drop at') = none) := Lib.hid (by
        rw [HIT.out, HC.out, List.drop_eq_nil_of_le (by have := HLEN.out; omega)]
        rfl)
      go_wp2_with fail
      exact bodyPost_ret (v := .tuple #[.agg #[.int .i64 0, .int .i64 0, .string ⟨#[]⟩, .slice none 0 0], .int .i64 (-1)]) (by simp [results, Tryz.results124, go_sem, c0, c1, c2, c3]) rfl ⟨by rw [HN.out]; rfl, below_res HBW.out⟩
end Go.Proofs.YtijggofelepaaaaGreatDoor.Dm

/- The contract of the reference's one on integers, and on whatever bytes; other memory stands. -/
set_option maxRecDepth 100000
namespace Go.Proofs.YtijggofelepaaaaGreatDoor.Dm
open Go Go.RowKit

theorem toI_wrap (u : Nat) (hu : u < 18446744073709551616) : toI u = wrap64 ((u : Int) + 9223372036854775808) := by
  have h := uOf_eq (wrap64 (u : Int)) (by unfold wrap64; omega) (by unfold wrap64; omega)
  unfold uOf at h
  rw [IntKind.wrap_u64, show wrap64 (u : Int) % 18446744073709551616 = (u : Int) by unfold wrap64; omega] at h
  unfold toI
  rw [h]
  unfold wrap64
  omega
/-- The first byte's highest bit turned. -/
def fl : List UInt8 → List UInt8
  | [] => []
  | c :: r => byt ((c.toNat : Int) + 128) :: r
theorem fl_snoc {l : List UInt8} (h : l ≠ []) (c : UInt8) : fl (l ++ [c]) = fl l ++ [c] := by
  match l with
  | [] => exact absurd rfl h
  | d :: l => rfl
theorem fl_length (l : List UInt8) : (fl l).length = l.length := by
  match l with
  | [] => rfl
  | d :: l => rfl
theorem fold_split (l : List UInt8) : ∀ u, l.foldl (fun u c => u * 256 + c.toNat) u = u * 256 ^ l.length + ivF l := by
  induction l with
  | nil => intro u; simp [ivF]
  | cons c l ih =>
    intro u
    have e : ivF (c :: l) = c.toNat * 256 ^ l.length + ivF l := by
      have := ih (0 * 256 + c.toNat)
      simpa [ivF] using this
    rw [List.foldl_cons, ih, e, List.length_cons, Nat.pow_succ, Nat.add_mul, Nat.mul_assoc, Nat.mul_comm 256]
    omega
theorem fl_toI (l : List UInt8) (h : l.length = 8) : wrap64 (ivF (fl l) : Int) = toI (ivF l) := by
  have hl := ivF_lt l
  rw [h] at hl
  rw [toI_wrap _ (by simpa using hl)]
  match l, h with
  | c :: r, h =>
    have hr : r.length = 7 := by simpa using h
    have e : ∀ d : UInt8, ivF (d :: r) = d.toNat * 72057594037927936 + ivF r := by
      intro d
      have := fold_split r (0 * 256 + d.toNat)
      rw [hr] at this
      simpa [ivF] using this
    rw [fl, e, e]
    have hb := byt_nat ((c.toNat : Int) + 128)
    have hc := c.toNat_lt
    unfold wrap64
    omega
theorem or_i64 (N : Nat) (b : Nat) (hN : N < 72057594037927936) (hb : b < 256) : bits BinOp.or IntKind.i64 (wrap64 ((N : Int) * 256)) (b : Int) = wrap64 (((N * 256 + b : Nat)) : Int) := by
  have h1 : (BitVec.ofInt 64 (wrap64 ((N : Int) * 256))).toNat = N * 256 := by rw [BitVec.toNat_ofInt]; unfold wrap64; omega
  have h2 : (BitVec.ofInt 64 (b : Int)).toNat = b := by rw [BitVec.toNat_ofInt]; omega
  show IntKind.i64.wrap ((BitVec.ofInt 64 (wrap64 ((N : Int) * 256)) ||| BitVec.ofInt 64 (b : Int)).toNat : Int) = _
  rw [BitVec.toNat_or, h1, h2, nat_join 8 (N * 256) b (by omega) hb, IntKind.wrap_i64]
  unfold wrap64
  omega

theorem wrap64_small (N : Nat) (hN : N < 9223372036854775808) : wrap64 (N : Int) = (N : Int) := by
  unfold wrap64
  omega
theorem step0 (c : UInt8) : bits BinOp.or IntKind.i64 (wrap64 (wrap64 ((ivF (fl []) : Nat) : Int) * 256)) (wrap64 (bits BinOp.xor IntKind.u8 (c.toNat : Int) 128)) = wrap64 ((ivF (fl [c]) : Nat) : Int) := by
  have hc := c.toNat_lt
  have hb := byt_nat ((c.toNat : Int) + 128)
  have hb2 := (byt ((c.toNat : Int) + 128)).toNat_lt
  have h := or_i64 0 (byt ((c.toNat : Int) + 128)).toNat (by omega) hb2
  rw [xor128 _ (by omega) (by omega), ← hb, wrap64_small (byt ((c.toNat : Int) + 128)).toNat (by omega)]
  have hw : wrap64 0 = 0 := by unfold wrap64; omega
  simpa [ivF, fl, hw] using h
theorem stepq (l : List UInt8) (hne : l ≠ []) (hl : l.length ≤ 7) (c : UInt8) : bits BinOp.or IntKind.i64 (wrap64 (wrap64 ((ivF (fl l) : Nat) : Int) * 256)) (wrap64 (c.toNat : Int)) = wrap64 ((ivF (fl (l ++ [c])) : Nat) : Int) := by
  have hc := c.toNat_lt
  have hN : ivF (fl l) < 72057594037927936 := by
    refine Nat.lt_of_lt_of_le (ivF_lt _) ?_
    refine Nat.le_trans (Nat.pow_le_pow_right (n := 256) (j := 7) (by decide) ?_) (by decide)
    rw [fl_length]
    exact hl
  rw [fl_snoc hne, ivF_snoc, wrap64_small _ (by omega), wrap64_small c.toNat (by omega), or_i64 _ _ hN hc]

set_option maxHeartbeats 3200000 in
theorem one_int (s : ByteArray) (at' : Nat) (w : World) (hs : s.size ≤ 140737488355000) (hat : at' < s.size) (h1 : s[at'] = 1) : Calls Tryz.prog 124 #[.string s, .int .i64 at'] w fun e w' => e = .returned (resO at' (itF (s.data.toList.drop at'))) ∧ Below w.heap.size w w' := by
  have HLEN := Lib.hid (toList_size s)
  obtain ⟨r, hr⟩ : ∃ r, r = s.data.toList.drop (at' + 1) := ⟨_, rfl⟩
  have hrl : r.length = s.size - (at' + 1) := by rw [hr, List.length_drop, HLEN.out]
  have hd : s.data.toList.drop at' = s[at'] :: r := by rw [hr]; exact List.drop_eq_getElem_cons (by have := HLEN.out; omega)
  have b1 : ((s[at'].toNat : Int) == 1) = true := by rw [h1]; rfl
  have hat2 : ¬ ((s.size : Int) ≤ (at' : Int)) := by omega
  have hat3 : (at' : Int) < (s.size : Int) := by omega
  by_cases hl : s.size < at' + 9
  · have HN : Hid (itF (s.data.toList.drop at') = none) := Lib.hid (by rw [hd, h1, itF, if_pos rfl, if_pos (by omega)])
    have hl2 : (s.size : Int) < (at' : Int) + 9 := by omega
    clear hd h1 hr
    go_enter Tryz.func124, Tryz.ntmps124
    go_wp2_with fail
    have HBW : Hid (Below w.heap.size w ((w.alloc (.cells #[.int .i64 0, .int .i64 0, .string ⟨#[]⟩, .slice none 0 0] 130)).alloc (.cells #[.int .i64 0, .int .i64 0, .string ⟨#[]⟩, .slice none 0 0] 130))) := Lib.hid (((Below.refl _ _).alloc (Nat.le_refl _) _).alloc (by simp) _)
    exact bodyPost_ret (v := .tuple #[.agg #[.int .i64 0, .int .i64 0, .string ⟨#[]⟩, .slice none 0 0], .int .i64 (-1)]) (by simp [results, Tryz.results124, go_sem]) rfl ⟨by rw [HN.out]; rfl, by first | exact HBW.out | exact below_res HBW.out⟩
  · have HN : Hid (itF (s.data.toList.drop at') = some ((1, toI (ivF (r.take 8)), ⟨#[]⟩), 9)) := Lib.hid (by rw [hd, h1, itF, if_pos rfl, if_neg (by omega)])
    have hl2 : ¬ (s.size : Int) < (at' : Int) + 9 := by omega
    have HR := Lib.hid hr
    clear hd h1 hr
    go_enter Tryz.func124, Tryz.ntmps124
    go_wp2_with fail
    go_loopw [7, 8, 9] (fun vn vi _ wr => ∃ q : Nat, q ≤ 8 ∧ vi = .int .i64 ((q : Int) + 1) ∧ vn = .int .i64 (wrap64 (ivF (fl (r.take q)))) ∧ wr = (w.alloc (.cells #[.int .i64 0, .int .i64 0, .string ⟨#[]⟩, .slice none 0 0] 130)).alloc (.cells #[.int .i64 0, .int .i64 0, .string ⟨#[]⟩, .slice none 0 0] 130)) (fun _ i _ _ => 9 - (intOf i).toNat)
    case atStart => exact ⟨0, by omega, rfl, by simp [ivF, fl, wrap64], rfl⟩
    case round =>
      obtain ⟨q, hq, rfl, rfl, rfl⟩ := hrel
      by_cases hlt : q < 8
      · have hqr : q < r.length := by omega
        have hT := List.take_succ_eq_append_getElem hqr
        have hsq : s[at' + (q + 1)]'(by omega) = r[q] := by
          have e : r[q] = s.data.toList[at' + (q + 1)]'(by have := HLEN.out; omega) := by simp [HR.out, Nat.add_assoc, Nat.add_comm 1 q]
          exact (show s[at' + (q + 1)]'(by omega) = s.data.toList[at' + (q + 1)]'(by have := HLEN.out; omega) from rfl).trans e.symm
        have HSQ := Lib.hid hsq; have HT := Lib.hid hT; clear hsq hT
        by_cases hq0 : q = 0
        · subst hq0
          go_wp2_with fail
          go_roundw
          case rel =>
            refine ⟨1, by omega, rfl, ?_, trivial⟩
            rw [HT.out, ← HSQ.out]
            exact congrArg _ (step0 _)
          case measure => simp [intOf]
        · have hne : r.take q ≠ [] := by
            intro h
            have := congrArg List.length h
            rw [List.length_take, List.length_nil] at this
            omega
          have hl7 : (r.take q).length ≤ 7 := by rw [List.length_take]; omega
          have HST := Lib.hid (stepq (r.take q) hne hl7 r[q])
          clear hne hl7
          go_wp2_with fail
          go_roundw
          case rel =>
            refine ⟨q + 1, by omega, by go_num, ?_, trivial⟩
            rw [HT.out, ← HST.out, ← HSQ.out]
          case measure => simp [intOf]; omega
      · obtain rfl : q = 8 := by omega
        have HF := Lib.hid (fl_toI (r.take 8) (by rw [List.length_take]; omega))
        have HBW : Hid (Below w.heap.size w ((w.alloc (.cells #[.int .i64 0, .int .i64 0, .string ⟨#[]⟩, .slice none 0 0] 130)).alloc (.cells #[.int .i64 0, .int .i64 0, .string ⟨#[]⟩, .slice none 0 0] 130))) := Lib.hid (((Below.refl _ _).alloc (Nat.le_refl _) _).alloc (by simp) _)
        go_wp2_with fail
        exact bodyPost_ret (v := .tuple #[.agg #[.int .i64 1, .int .i64 (wrap64 (ivF (fl (r.take 8)))), .string ⟨#[]⟩, .slice none 0 0], .int .i64 ((at' + 9 : Nat) : Int)]) (by simp [results, Tryz.results124, go_sem]) rfl ⟨by rw [HN.out, resO, HF.out], by first | exact HBW.out | exact below_res HBW.out | exact ((Below.refl _ _).alloc (Nat.le_refl _) _).alloc (by simp) _⟩

set_option maxHeartbeats 1600000 in
/-- What the reference's one tells, at whatever place. -/
theorem one_any (s : ByteArray) (at' : Nat) (w : World) (hs : s.size ≤ 140737488355000) : Calls Tryz.prog 124 #[.string s, .int .i64 at'] w fun e w' => e = .returned (resO at' (itF (s.data.toList.drop at'))) ∧ Below w.heap.size w w' := by
  have HLEN := Lib.hid (toList_size s)
  by_cases hat : at' < s.size
  · by_cases h1 : s[at'] = 1
    · exact one_int s at' w hs hat h1
    · by_cases h2 : s[at'] = 2
      · exact one_text s at' w hs hat h2
      · have hd : s.data.toList.drop at' = s[at'] :: s.data.toList.drop (at' + 1) := List.drop_eq_getElem_cons (by have := HLEN.out; omega)
        have HN : Hid (itF (s.data.toList.drop at') = none) := Lib.hid (by rw [hd, itF, if_neg h1, if_neg h2])
        have b1 : ((s[at'].toNat : Int) == 1) = false := u8_not (c := 1) h1
        have b2 : ((s[at'].toNat : Int) != 2) = true := by
          have := u8_not (c := 2) h2
          rw [bne, show (2 : Int) = ((2 : UInt8).toNat : Int) from rfl, this]
          rfl
        have hat2 : ¬ ((s.size : Int) ≤ (at' : Int)) := by omega
        have hat3 : (at' : Int) < (s.size : Int) := by omega
        clear hd h1 h2
        go_enter Tryz.func124, Tryz.ntmps124
        go_wp2_with fail
        have HBW : Hid (Below w.heap.size w ((w.alloc (.cells #[.int .i64 0, .int .i64 0, .string ⟨#[]⟩, .slice none 0 0] 130)).alloc (.cells #[.int .i64 0, .int .i64 0, .string ⟨#[]⟩, .slice none 0 0] 130))) := Lib.hid (((Below.refl _ _).alloc (Nat.le_refl _) _).alloc (by simp) _)
        exact bodyPost_ret (v := .tuple #[.agg #[.int .i64 0, .int .i64 0, .string ⟨#[]⟩, .slice none 0 0], .int .i64 (-1)]) (by simp [results, Tryz.results124, go_sem]) rfl ⟨by rw [HN.out]; rfl, by first | exact HBW.out | exact below_res HBW.out⟩
  · have HN : Hid (itF (s.data.toList.drop at') = none) := Lib.hid (by
      rw [List.drop_eq_nil_of_le (by have := HLEN.out; omega)]
      rfl)
    have hat2 : (s.size : Int) ≤ (at' : Int) := by omega
    go_enter Tryz.func124, Tryz.ntmps124
    go_wp2_with fail
    have HBW : Hid (Below w.heap.size w ((w.alloc (.cells #[.int .i64 0, .int .i64 0, .string ⟨#[]⟩, .slice none 0 0] 130)).alloc (.cells #[.int .i64 0, .int .i64 0, .string ⟨#[]⟩, .slice none 0 0] 130))) := Lib.hid (((Below.refl _ _).alloc (Nat.le_refl _) _).alloc (by simp) _)
    exact bodyPost_ret (v := .tuple #[.agg #[.int .i64 0, .int .i64 0, .string ⟨#[]⟩, .slice none 0 0], .int .i64 (-1)]) (by simp [results, Tryz.results124, go_sem]) rfl ⟨by rw [HN.out]; rfl, by first | exact HBW.out | exact below_res HBW.out⟩
end Go.Proofs.YtijggofelepaaaaGreatDoor.Dm
