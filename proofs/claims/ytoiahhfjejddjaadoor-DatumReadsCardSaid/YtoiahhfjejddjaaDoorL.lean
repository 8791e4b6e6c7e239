/- The contract of readList: for every string of at most 2^47 bytes that begins with the sign of a list; other memory stands. -/
import Derived.Test.YtoiahhfjejddjaaDoorK
import Derived.Laws.OwnMore
import Derived.OneCell
set_option maxRecDepth 100000
namespace Go.Proofs.YtoiahhfjejddjaaDoor
open Go Go.RowKit

/-- An item's own data. -/
def cont (x : It) : Int × Int × ByteArray := (x.k, x.n, x.s)
/-- The cells of items, one behind the other. -/
def itVals (xs : List It) : List Value := xs.flatMap fun x => [.int .i64 x.k, .int .i64 x.n, .string x.s, .slice x.a x.ll x.lc]
theorem itVals_length (xs : List It) : (itVals xs).length = xs.length * 4 := by
  induction xs with
  | nil => rfl
  | cons x r ih => simp [itVals] at ih ⊢; omega
theorem itVals_snoc (xs : List It) (x : It) : itVals (xs ++ [x]) = itVals xs ++ [.int .i64 x.k, .int .i64 x.n, .string x.s, .slice x.a x.ll x.lc] := by simp [itVals]
theorem itVals_at (xs : List It) : ∀ j (h : j < xs.length), (itVals xs)[j * 4]? = some (.int .i64 (xs[j]'h).k) ∧ (itVals xs)[j * 4 + 1]? = some (.int .i64 (xs[j]'h).n) ∧ (itVals xs)[j * 4 + 2]? = some (.string (xs[j]'h).s) ∧ (itVals xs)[j * 4 + 3]? = some (.slice (xs[j]'h).a (xs[j]'h).ll (xs[j]'h).lc) := by
  induction xs with
  | nil => intro j h; simp at h
  | cons x r ih =>
    intro j h
    have e : itVals (x :: r) = [.int .i64 x.k, .int .i64 x.n, .string x.s, .slice x.a x.ll x.lc] ++ itVals r := by simp [itVals]
    cases j with
    | zero => rw [e]; exact ⟨rfl, rfl, rfl, rfl⟩
    | succ j =>
      have := ih j (by simpa using h)
      rw [e]
      rw [show (j + 1) * 4 = (j * 4) + 4 by omega, show j * 4 + 4 + 1 = (j * 4 + 1) + 4 by omega, show j * 4 + 4 + 2 = (j * 4 + 2) + 4 by omega, show j * 4 + 4 + 3 = (j * 4 + 3) + 4 by omega]
      simpa [List.getElem?_append_right] using this

theorem cells_of_row {w : World} {B g cap : Nat} {xs : List It} (h : w.ownsRow B 24 4 (.slice (some ⟨g, 0, none⟩) xs.length cap) xs.length (itVals xs)) : CellsOf w g 0 xs := by
  intro j hj
  obtain ⟨h0, h1, h2, h3⟩ := itVals_at xs j hj
  rw [Nat.zero_add]
  exact ⟨(h.cellAt _ (by omega)).trans h0, (h.cellAt _ (by omega)).trans h1, (h.cellAt _ (by omega)).trans h2, (h.cellAt _ (by omega)).trans h3⟩

/-- The items may be. -/
def Good (ys : List It) : Prop := ∀ y ∈ ys, y.ok = true ∧ I64 y.n
/-- How far a list's text has been read. -/
def ScanL (s : List UInt8) (acc : List It) (j : Nat) : Prop :=
  ∀ ys r, s = 91 :: (commaT ys ++ 93 :: r) → Good ys → ys ≠ [] → ys.length ≤ 8 → ∃ zs, zs ≠ [] ∧ ys.map cont = acc.map cont ++ zs.map cont ∧ (∀ z ∈ zs, z ∈ ys) ∧ s.drop j = commaT zs ++ 93 :: r

theorem ScanL.start {s : List UInt8} : ScanL s [] 1 := by
  intro ys r hs _ hne _
  exact ⟨ys, hne, rfl, fun _ h => h, by rw [hs]; rfl⟩

theorem commaT_cons (z : It) (zs : List It) : commaT (z :: zs) = itemT z.k z.n z.s ++ (if zs = [] then [] else 44 :: commaT zs) := by
  cases zs with
  | nil => simp [commaT]
  | cons y r => simp [commaT]

theorem itemT_ne (k n : Int) (s : ByteArray) : 1 ≤ (itemT k n s).length := by
  unfold itemT
  split
  · have := itoa_ne n
    cases h : Lib.itoa n with
    | nil => exact absurd h this
    | cons c r => simp
  · simp [pText]

/-- What the clause says of the item that stands at j. -/
theorem ScanL.item {s : List UInt8} {acc : List It} {j : Nat} (h : ScanL s acc j) {k n : Int} {t : ByteArray} {m : Nat} (hc : Clause (fun _ => True) (s.drop j) k n t m) :
    ∀ ys r, s = 91 :: (commaT ys ++ 93 :: r) → Good ys → ys ≠ [] → ys.length ≤ 8 → ∃ zs, ys.map cont = (acc ++ [(⟨k, n, t, none, 0, 0⟩ : It)]).map cont ++ zs.map cont ∧ (∀ z ∈ zs, z ∈ ys) ∧ 1 ≤ m ∧ s.drop (j + m) = (if zs = [] then [] else 44 :: commaT zs) ++ 93 :: r := by
  intro ys r hs hg hne hlen
  obtain ⟨zs, hz, e1, hmem, e2⟩ := h ys r hs hg hne hlen
  cases zs with
  | nil => exact absurd rfl hz
  | cons z zs =>
    have hzg := hg z (hmem z (by simp))
    rw [commaT_cons, List.append_assoc] at e2
    have hit : itemOk z.k z.n z.s 0 = true := by
      have := itemOk_true hzg.1
      exact itemOk_of ⟨by omega, this.2⟩
    have hrest : Rest ((if zs = [] then [] else 44 :: commaT zs) ++ 93 :: r) := by
      right
      split
      · exact ⟨r, .inr rfl⟩
      · exact ⟨commaT zs ++ 93 :: r, .inl rfl⟩
    obtain ⟨q1, q2, q3, q4⟩ := hc z.k z.n z.s _ trivial hit hzg.2 hrest e2
    refine ⟨zs, ?_, fun x hx => hmem x (by simp [hx]), by rw [q4]; exact itemT_ne _ _ _, ?_⟩
    · rw [e1]; simp [cont, q1, q2, q3]
    · have : s.drop (j + m) = (s.drop j).drop m := by rw [List.drop_drop]
      rw [this, e2, q4]
      simp

/-- Items that were read. -/
def Fre (xs : List It) : Prop := ∀ x ∈ xs, I64 x.n ∧ x.ll = 0
/-- The items lie in a block from B on. -/
def SlG (B : Nat) (w : World) (a : Option Addr) (xs : List It) : Prop :=
  xs = [] ∨ ∃ b off, a = some ⟨b, off, none⟩ ∧ B ≤ b ∧ b < w.heap.size ∧ CellsOf w b off xs
theorem SlG.sl {B : Nat} {w : World} {a : Option Addr} {xs : List It} (h : SlG B w a xs) : Sl w a xs := by
  rcases h with h | ⟨b, off, h1, _, h3, h4⟩
  · exact .inl h
  · exact .inr ⟨b, off, h1, h3, h4⟩
def LClause (s : List UInt8) (k n : Int) (t : ByteArray) (xs : List It) : Prop :=
  ∀ ys r, s = 91 :: (commaT ys ++ 93 :: r) → Good ys → ys.length ≤ 8 → k = 3 ∧ n = 0 ∧ t = ⟨#[]⟩ ∧ xs.map cont = ys.map cont
def ListPost (s : List UInt8) (w : World) (e : Ending) (w' : World) : Prop :=
  ∃ (k n : Int) (t : ByteArray) (a : Option Addr) (xs : List It) (lc m : Nat), e = .returned (.tuple #[.agg #[.int .i64 k, .int .i64 n, .string t, .slice a xs.length lc], .int .i64 m]) ∧ Below w.heap.size w w' ∧ I64 n ∧ Fre xs ∧ SlG w.heap.size w' a xs ∧ LClause s k n t xs

theorem mk8 (w : World) : (Instr.makeSlice 22 (.int .i64 0) (.int .i64 8)).run Tryd.prog w = .ok (.slice (some ⟨w.heap.size, 0, none⟩) 0 8) (w.alloc (.cells #[.int .i64 0, .int .i64 0, .string ⟨#[]⟩, .slice none 0 0, .int .i64 0, .int .i64 0, .string ⟨#[]⟩, .slice none 0 0, .int .i64 0, .int .i64 0, .string ⟨#[]⟩, .slice none 0 0, .int .i64 0, .int .i64 0, .string ⟨#[]⟩, .slice none 0 0, .int .i64 0, .int .i64 0, .string ⟨#[]⟩, .slice none 0 0, .int .i64 0, .int .i64 0, .string ⟨#[]⟩, .slice none 0 0, .int .i64 0, .int .i64 0, .string ⟨#[]⟩, .slice none 0 0, .int .i64 0, .int .i64 0, .string ⟨#[]⟩, .slice none 0 0] 24)) := by kernel_rfl
theorem infoDat : (Tryd.prog.info? 24).map (fun i => (i.zero, i.size, i.bytes)) = some (some (.agg #[.int .i64 0, .int .i64 0, .string ⟨#[]⟩, .slice none 0 0]), 4, 56) := by kernel_rfl

theorem comma_head {ys : List It} {r : List UInt8} (hne : ys ≠ []) : ∃ c d, commaT ys ++ 93 :: r = c :: d ∧ c ≠ 93 := by
  cases ys with
  | nil => exact absurd rfl hne
  | cons y ys =>
    rw [commaT_cons]
    unfold itemT
    split
    · obtain ⟨c, d, e, _, _⟩ := itoa_head y.n
      have hc := itoa_numC y.n c (by rw [e]; simp)
      rw [e]
      exact ⟨c, _, rfl, by intro h; subst h; revert hc; decide⟩
    · exact ⟨39, _, rfl, by decide⟩

theorem res_zero_list {s : List UInt8} (h : ∀ ys r, s = 91 :: (commaT ys ++ 93 :: r) → Good ys → ys.length ≤ 8 → False) : ∀ ys r, s = 91 :: (commaT ys ++ 93 :: r) → Good ys → ys.length ≤ 8 → (0 : Int) = 3 ∧ (0 : Int) = 0 ∧ (⟨#[]⟩ : ByteArray) = ⟨#[]⟩ ∧ (([] : List It).map cont = ys.map cont) :=
  fun ys r h1 h2 h3 => (h ys r h1 h2 h3).elim

theorem ownsRow_below {w w' : World} {base : Nat} {e : TypeId} {size : Nat} {v : Value} {n : Nat} {xs : List Value} (h : w.ownsRow base e size v n xs) (hb : Below w.heap.size w w') : w'.ownsRow base e size v n xs := by
  refine ⟨h.1, ?_⟩
  rcases h.2 with hn | ⟨g, cap, cur, rfl, hb', hg, rest⟩
  · exact .inl hn
  · exact .inr ⟨g, cap, cur, rfl, hb', by rw [hb.block g (Array.getElem?_eq_some_iff.1 hg).1]; exact hg, rest⟩

theorem Sl_of_row {w : World} {B B' g cap : Nat} {xs : List It} (h : w.ownsRow B 24 4 (.slice (some ⟨g, 0, none⟩) xs.length cap) xs.length (itVals xs)) (hB : B' ≤ B) : SlG B' w (some ⟨g, 0, none⟩) xs :=
  .inr ⟨g, 0, rfl, Nat.le_trans hB (h.lt g rfl).1, (h.lt g rfl).2, cells_of_row h⟩
theorem row_res {w w2 : World} {g cap n : Nat} {vs : List Value} {v0 v1 v2 v3 : Value} (h : w2.ownsRow (w.heap.size + 1) 24 4 (.slice (some ⟨g, 0, none⟩) n cap) n vs) :
    ((((w2.setCell ⟨w.heap.size, 0, none⟩ v0).setCell ⟨w.heap.size, 1, none⟩ v1).setCell ⟨w.heap.size, 2, none⟩ v2).setCell ⟨w.heap.size, 3, none⟩ v3).ownsRow (w.heap.size + 1) 24 4 (.slice (some ⟨g, 0, none⟩) n cap) n vs := by
  have hg := (h.lt g rfl).1
  have hne : ∀ i, (Value.slice (some ⟨g, 0, none⟩) n cap).ownBlock ≠ some (⟨w.heap.size, i, none⟩ : Addr).block := by
    intro i e
    simp [Value.ownBlock] at e
    omega
  exact ownsRow_setCell_other (ownsRow_setCell_other (ownsRow_setCell_other (ownsRow_setCell_other h (hne 0) v0) (hne 1) v1) (hne 2) v2) (hne 3) v3

theorem res_alloc {w1 : World} {B : Nat} {u0 u1 u2 u3 v0 v1 v2 v3 : Value} (c0 : w1.cell? ⟨B, 0, none⟩ = some u0) (c1 : w1.cell? ⟨B, 1, none⟩ = some u1) (c2 : w1.cell? ⟨B, 2, none⟩ = some u2) (c3 : w1.cell? ⟨B, 3, none⟩ = some u3) (o : Obj) :
    (((((w1.setCell ⟨B, 0, none⟩ v0).setCell ⟨B, 1, none⟩ v1).setCell ⟨B, 2, none⟩ v2).setCell ⟨B, 3, none⟩ v3).alloc o).cell? ⟨B, 0, none⟩ = some v0 ∧
    (((((w1.setCell ⟨B, 0, none⟩ v0).setCell ⟨B, 1, none⟩ v1).setCell ⟨B, 2, none⟩ v2).setCell ⟨B, 3, none⟩ v3).alloc o).cell? ⟨B, 1, none⟩ = some v1 ∧
    (((((w1.setCell ⟨B, 0, none⟩ v0).setCell ⟨B, 1, none⟩ v1).setCell ⟨B, 2, none⟩ v2).setCell ⟨B, 3, none⟩ v3).alloc o).cell? ⟨B, 2, none⟩ = some v2 ∧
    (((((w1.setCell ⟨B, 0, none⟩ v0).setCell ⟨B, 1, none⟩ v1).setCell ⟨B, 2, none⟩ v2).setCell ⟨B, 3, none⟩ v3).alloc o).cell? ⟨B, 3, none⟩ = some v3 := by
  refine ⟨?_, ?_, ?_, ?_⟩ <;> (rw [World.cell?_alloc_some _ _ _ (by simp [go_sem, c0, c1, c2, c3])]; simp [go_sem, c0, c1, c2, c3])

theorem ListPost.zero {s : List UInt8} {w w' : World} (hb : Below w.heap.size w w') (h : ∀ ys r, s = 91 :: (commaT ys ++ 93 :: r) → Good ys → ys.length ≤ 8 → False) : ListPost s w (.returned (.tuple #[.agg #[.int .i64 0, .int .i64 0, .string ⟨#[]⟩, .slice none 0 0], .int .i64 0])) w' :=
  ⟨0, 0, ⟨#[]⟩, none, [], 0, 0, rfl, hb, ⟨by decide, by decide⟩, fun x hx => by simp at hx, .inl rfl, res_zero_list h⟩

set_option maxHeartbeats 3200000 in
theorem readList_any (s : ByteArray) (w : World) (hL : Hid (Laid w)) (hs : s.size ≤ 140737488355328) (h1s : 1 ≤ s.size) (_h91 : Hid (∃ s', s.data.toList = 91 :: s')) : Calls Tryd.prog 48 #[.string s] w (ListPost s.data.toList w) := by
  have HLEN := Lib.hid (toList_size s)
  obtain ⟨i0, hi, q0, q1, q2⟩ := info_parts infoDat
  cases hpre : Lib.hasPrefix s.data.toList [91, 93]
  · have HPRE := Lib.hid hpre; clear hpre
    have hmk := mk8
    have hNE : Hid (∀ ys r, s.data.toList = 91 :: (commaT ys ++ 93 :: r) → ys ≠ []) := by
      refine Lib.hid (fun ys r h e => ?_)
      subst e
      have := HPRE.out
      rw [h] at this
      simp [commaT, Lib.hasPrefix] at this
    go_enter Tryd.func48, Tryd.ntmps48
    go_wp2_with fail
    refine (Tryd.strings_HasPrefix _ _ _).mono ?_
    rintro e w' ⟨rfl, hw⟩
    rw [hw, str_lit, HPRE.out]
    clear hw
    go_wp2
    go_loopw [4, 5] (fun v i wr => ∃ (j : Nat) (acc : List It) (g cap : Nat), 1 ≤ j ∧ j ≤ s.size ∧ v = .slice (some ⟨g, 0, none⟩) acc.length cap ∧ i = .int .i64 j ∧ acc.length ≤ 8 ∧ Hid (wr.ownsRow (w.heap.size + 1) 24 4 (.slice (some ⟨g, 0, none⟩) acc.length cap) acc.length (itVals acc)) ∧ Below (w.heap.size + 1) (w.alloc (.cells #[.int .i64 0, .int .i64 0, .string ⟨#[]⟩, .slice none 0 0] 24)) wr ∧ Hid (Fre acc) ∧ Hid (ScanL s.data.toList acc j)) (fun _ i _ => s.size + 1 - (intOf i).toNat)
    case atStart =>
      refine ⟨1, [], w.heap.size + 1, 8, by omega, h1s, rfl, rfl, by simp, Lib.hid ?_, (Below.refl _ _).alloc (by simp) _, Lib.hid (fun x hx => by simp at hx), Lib.hid ScanL.start⟩
      have := World.ownsRow_made (base := w.heap.size + 1) (e := 24) (size := 4) (w.alloc (.cells #[.int .i64 0, .int .i64 0, .string ⟨#[]⟩, .slice none 0 0] 24)) #[.int .i64 0, .int .i64 0, .string ⟨#[]⟩, .slice none 0 0, .int .i64 0, .int .i64 0, .string ⟨#[]⟩, .slice none 0 0, .int .i64 0, .int .i64 0, .string ⟨#[]⟩, .slice none 0 0, .int .i64 0, .int .i64 0, .string ⟨#[]⟩, .slice none 0 0, .int .i64 0, .int .i64 0, .string ⟨#[]⟩, .slice none 0 0, .int .i64 0, .int .i64 0, .string ⟨#[]⟩, .slice none 0 0, .int .i64 0, .int .i64 0, .string ⟨#[]⟩, .slice none 0 0, .int .i64 0, .int .i64 0, .string ⟨#[]⟩, .slice none 0 0] 8 (by simp) (by decide) (by rfl)
      rw [World.size_alloc] at this
      exact this
    case round =>
      obtain ⟨j, acc, g, cap, hj1, hj, rfl, rfl, hacc, HO, hb, HA, HC⟩ := hrel
      obtain ⟨c0, c1, c2, c3⟩ := box_cells hb
      obtain ⟨f0, f1, f2, f3⟩ := box_frozen hb
      have hwr := hb.size
      simp at hwr
      have HB := Lib.hid hb; clear hb
      have HBW : Hid (Below w.heap.size w wr) := Lib.hid (below_al _ (by simpa using HB.out))
      by_cases hl8 : acc.length < 8
      · have hl8' : (acc.length : Int) < 8 := by omega
        go_wp2_with fail
        refine (readItem_any _ _ (Lib.hid (hL.out.below HBW.out hL.out.six)) (extract_small s _ hs)).mono ?_
        rintro e w1 ⟨k, n, t, m, rfl, hb1, hn, hm, ht, hc⟩
        rw [extract_drop] at hc hm
        rw [List.length_drop] at hm
        have hjm : j + m ≤ s.size := by have := HLEN.out; omega
        have HB1 := Lib.hid (HB.out.trans (hb1.mono (by omega)))
        have HO1 : Hid (w1.ownsRow (w.heap.size + 1) 24 4 (.slice (some ⟨g, 0, none⟩) acc.length cap) acc.length (itVals acc)) := Lib.hid (ownsRow_below HO.out hb1)
        have hz1 := hb1.size
        obtain ⟨d0, d1, d2, d3⟩ := box_cells HB1.out
        obtain ⟨g0, g1, g2, g3⟩ := box_frozen HB1.out
        have HN := Lib.hid hn; have HCL := Lib.hid (HC.out.item hc); clear hb1 hn hm ht hc
        have hzw : w.heap.size < w1.heap.size := by omega
        by_cases hm0 : m = 0
        · subst hm0
          have HBW1 : Hid (Below w.heap.size w w1) := Lib.hid (below_al _ (by simpa using HB1.out))
          have HZ : Hid (∀ ys r, s.data.toList = 91 :: (commaT ys ++ 93 :: r) → Good ys → ys.length ≤ 8 → False) := Lib.hid (fun ys r h1 h2 h3 => by
            obtain ⟨zs, _, _, h4, _⟩ := HCL.out ys r h1 h2 (hNE.out ys r h1) h3
            omega)
          go_wp2
          obtain ⟨r0, r1, r2, r3⟩ := res_alloc (v0 := .int .i64 0) (v1 := .int .i64 0) (v2 := .string ⟨#[]⟩) (v3 := .slice none 0 0) d0 d1 d2 d3 (.cells #[.int .i64 k, .int .i64 n, .string t, .slice none 0 0] 24)
          refine bodyPost_ret (v := .tuple #[.agg #[.int .i64 0, .int .i64 0, .string ⟨#[]⟩, .slice none 0 0], .int .i64 0]) (by simp [results, Tryd.results48, go_sem, r0, r1, r2, r3]) rfl (ListPost.zero ((below_res HBW1.out).alloc (by simp [World.setCell]; omega) _) HZ.out)
        · have hmb : ((m : Int) == 0) = false := by rw [beq_eq_false_iff_ne]; omega
          by_cases hend : j + m = s.size
          · have heb : ((j : Int) + (m : Int) == (s.size : Int)) = true := by rw [beq_iff_eq]; omega
            have HBW1 : Hid (Below w.heap.size w w1) := Lib.hid (below_al _ (by simpa using HB1.out))
            have HZ : Hid (∀ ys r, s.data.toList = 91 :: (commaT ys ++ 93 :: r) → Good ys → ys.length ≤ 8 → False) := Lib.hid (fun ys r h1 h2 h3 => by
              obtain ⟨zs, _, _, _, h4⟩ := HCL.out ys r h1 h2 (hNE.out ys r h1) h3
              rw [List.drop_of_length_le (by have := HLEN.out; omega)] at h4
              have := congrArg List.length h4
              simp at this)
            go_wp2
            obtain ⟨r0, r1, r2, r3⟩ := res_alloc (v0 := .int .i64 0) (v1 := .int .i64 0) (v2 := .string ⟨#[]⟩) (v3 := .slice none 0 0) d0 d1 d2 d3 (.cells #[.int .i64 k, .int .i64 n, .string t, .slice none 0 0] 24)
            refine bodyPost_ret (v := .tuple #[.agg #[.int .i64 0, .int .i64 0, .string ⟨#[]⟩, .slice none 0 0], .int .i64 0]) (by simp [results, Tryd.results48, go_sem, r0, r1, r2, r3]) rfl (ListPost.zero ((below_res HBW1.out).alloc (by simp [World.setCell]; omega) _) HZ.out)
          · have heb : ((j : Int) + (m : Int) == (s.size : Int)) = false := by rw [beq_eq_false_iff_ne]; omega
            go_wp2_with (at_builtin; refine wpList_append_own _ rfl _ _ 22 rfl (w.heap.size + 1) 24 i0 (.agg #[.int .i64 0, .int .i64 0, .string ⟨#[]⟩, .slice none 0 0]) 4 56 Tryd.underlying22 hi q0 q1 q2 rfl (by decide) _ _ _ rfl ((HO1.out.alloc _).alloc _) ⟨w1.heap.size + 1, 0, none⟩ 1 1 [.int .i64 k, .int .i64 n, .string t, .slice none 0 0] rfl rfl ?c1 ?c2 ?c3 ?c4 ?c5 ?_)
            case c1 =>
              intro q u hu
              have hq : q = 0 ∨ q = 1 ∨ q = 2 ∨ q = 3 := by
                have := (List.getElem?_eq_some_iff.1 hu).1
                simp at this
                omega
              rcases hq with rfl | rfl | rfl | rfl <;> (simp at hu; subst hu; simp [Addr.add])
            case c2 => intro u hu; simp at hu; rcases hu with rfl | rfl | rfl | rfl <;> rfl
            case c3 => unfold maxLen; omega
            case c4 => omega
            case c5 => simp; omega
            intro v' w2 hown' hgrow _
            obtain ⟨g', cap', rfl⟩ : ∃ g' cap', v' = .slice (some ⟨g', 0, none⟩) (acc.length + 1) cap' := by
              rcases hown'.2 with ⟨_, h0⟩ | ⟨g', cap', cur, hv, _⟩
              · omega
              · exact ⟨g', cap', hv⟩
            have hB2 : Below (w.heap.size + 1) (w.alloc (.cells #[.int .i64 0, .int .i64 0, .string ⟨#[]⟩, .slice none 0 0] 24)) w2 :=
              ((HB1.out.alloc (by omega) _).alloc (by rw [World.size_alloc]; omega) _).grown hgrow (by rw [World.size_alloc, World.size_alloc]; omega) (fun q hq => (HO1.out.lt q hq).1)
            have hz2 : w1.heap.size < w2.heap.size := by have := hgrow.size; rw [World.size_alloc, World.size_alloc] at this; omega
            have HB2 := Lib.hid hB2
            have HO2 : Hid (w2.ownsRow (w.heap.size + 1) 24 4 (.slice (some ⟨g', 0, none⟩) (acc ++ [(⟨k, n, t, none, 0, 0⟩ : It)]).length cap') (acc ++ [(⟨k, n, t, none, 0, 0⟩ : It)]).length (itVals (acc ++ [(⟨k, n, t, none, 0, 0⟩ : It)]))) := Lib.hid (by rw [itVals_snoc, List.length_append]; exact hown')
            have HA2 : Hid (Fre (acc ++ [(⟨k, n, t, none, 0, 0⟩ : It)])) := Lib.hid (fun x hx => by
              rcases List.mem_append.1 hx with hx | hx
              · exact HA.out x hx
              · rw [List.mem_singleton] at hx; subst hx; exact ⟨HN.out, rfl⟩)
            clear hown' hgrow hB2 d0 d1 d2 d3 g0 g1 g2 g3
            obtain ⟨d0, d1, d2, d3⟩ := box_cells HB2.out
            obtain ⟨g0, g1, g2, g3⟩ := box_frozen HB2.out
            have HBW2 : Hid (Below w.heap.size w w2) := Lib.hid (below_al _ (by simpa using HB2.out))
            have hjm' : j + m < s.size := by omega
            have HD : Hid (s.data.toList.drop (j + m) = s[j + m] :: s.data.toList.drop (j + m + 1)) := Lib.hid (drop_cons (s := s.data.toList) (j := j + m) hjm')
            by_cases h93 : s[j + m] = 93
            · have b93 : ((s[j + m].toNat : Int) == 93) = true := u8_is h93
              have HZ : Hid (LClause s.data.toList 3 0 ⟨#[]⟩ (acc ++ [(⟨k, n, t, none, 0, 0⟩ : It)])) := Lib.hid (fun ys r h1 h2 h3 => by
                obtain ⟨zs, h4, _, _, h5⟩ := HCL.out ys r h1 h2 (hNE.out ys r h1) h3
                refine ⟨rfl, rfl, rfl, ?_⟩
                cases zs with
                | nil => rw [h4]; simp
                | cons z zs =>
                  rw [HD.out, h93, if_neg (by simp)] at h5
                  injection h5 with h5 _
                  exact absurd h5 (by decide))
              go_wp2
              refine bodyPost_ret (v := .tuple #[.agg #[.int .i64 3, .int .i64 0, .string ⟨#[]⟩, .slice (some ⟨g', 0, none⟩) (acc ++ [(⟨k, n, t, none, 0, 0⟩ : It)]).length cap'], .int .i64 ((j + m + 1 : Nat) : Int)]) (by simp [results, Tryd.results48, go_sem, d0, d1, d2, d3]) rfl ⟨3, 0, ⟨#[]⟩, _, acc ++ [(⟨k, n, t, none, 0, 0⟩ : It)], cap', j + m + 1, rfl, below_res HBW2.out, ⟨by decide, by decide⟩, HA2.out, Sl_of_row (row_res HO2.out) (by omega), HZ.out⟩
            · have b93 : ((s[j + m].toNat : Int) == 93) = false := u8_not h93
              by_cases h44 : s[j + m] = 44
              · have b44 : ((s[j + m].toNat : Int) != 44) = false := by rw [bne_eq_false_iff_eq, h44]; rfl
                have HZ : Hid (ScanL s.data.toList (acc ++ [(⟨k, n, t, none, 0, 0⟩ : It)]) (j + m + 1)) := Lib.hid (fun ys r h1 h2 hne h3 => by
                  obtain ⟨zs, h4, h6, _, h5⟩ := HCL.out ys r h1 h2 hne h3
                  cases zs with
                  | nil =>
                    rw [HD.out, h44, if_pos rfl] at h5
                    injection h5 with h5 _
                    exact absurd h5 (by decide)
                  | cons z zs =>
                    refine ⟨z :: zs, by simp, h4, h6, ?_⟩
                    rw [HD.out, if_neg (by simp)] at h5
                    injection h5)
                go_wp2_with fail
                go_roundw
                case rel => exact ⟨j + m + 1, acc ++ [(⟨k, n, t, none, 0, 0⟩ : It)], g', cap', by omega, by omega, by simp, by go_num, by simp; omega, HO2, HB2.out, HA2, HZ⟩
                case measure => simp [intOf]; omega
              · have b44 : ((s[j + m].toNat : Int) != 44) = true := by
                  rw [bne_iff_ne]
                  intro h
                  exact h44 (UInt8.toNat_inj.1 (by have h' : (s[j + m].toNat : Int) = 44 := h; show s[j + m].toNat = 44; omega))
                have HZ : Hid (∀ ys r, s.data.toList = 91 :: (commaT ys ++ 93 :: r) → Good ys → ys.length ≤ 8 → False) := Lib.hid (fun ys r h1 h2 h3 => by
                  obtain ⟨zs, _, _, _, h4⟩ := HCL.out ys r h1 h2 (hNE.out ys r h1) h3
                  rw [HD.out] at h4
                  cases zs with
                  | nil =>
                    rw [if_pos rfl] at h4
                    injection h4 with h4 _
                    exact h93 h4
                  | cons z zs =>
                    rw [if_neg (by simp)] at h4
                    injection h4 with h4 _
                    exact h44 h4)
                go_wp2
                refine bodyPost_ret (v := .tuple #[.agg #[.int .i64 0, .int .i64 0, .string ⟨#[]⟩, .slice none 0 0], .int .i64 0]) (by simp [results, Tryd.results48, go_sem, d0, d1, d2, d3]) rfl (ListPost.zero (below_res HBW2.out) HZ.out)
      · have HZ : Hid (∀ ys r, s.data.toList = 91 :: (commaT ys ++ 93 :: r) → Good ys → ys.length ≤ 8 → False) := Lib.hid (fun ys r h1 h2 h3 => by
          obtain ⟨zs, h4, h5, _, _⟩ := HC.out ys r h1 h2 (hNE.out ys r h1) h3
          have := congrArg List.length h5
          simp at this
          cases zs with
          | nil => exact h4 rfl
          | cons z zs => simp at this; omega)
        go_wp2
        refine bodyPost_ret (v := .tuple #[.agg #[.int .i64 0, .int .i64 0, .string ⟨#[]⟩, .slice none 0 0], .int .i64 0]) (by simp [results, Tryd.results48, go_sem, c0, c1, c2, c3]) rfl (ListPost.zero (below_res HBW.out) HZ.out)
  · have HPRE := Lib.hid hpre; clear hpre
    have HZ : Hid (LClause s.data.toList 3 0 ⟨#[]⟩ []) := Lib.hid (fun ys r h1 h2 h3 => by
      refine ⟨rfl, rfl, rfl, ?_⟩
      cases ys with
      | nil => rfl
      | cons y ys =>
        exfalso
        obtain ⟨c, d, e, hc⟩ := comma_head (ys := y :: ys) (r := r) (by simp)
        have := HPRE.out
        rw [h1, e] at this
        simp [Lib.hasPrefix] at this
        exact hc this.symm)
    go_enter Tryd.func48, Tryd.ntmps48
    go_wp2_with fail
    refine (Tryd.strings_HasPrefix _ _ _).mono ?_
    rintro e w' ⟨rfl, hw⟩
    rw [hw, str_lit, HPRE.out]
    clear hw
    go_wp2
    refine bodyPost_ret (v := .tuple #[.agg #[.int .i64 3, .int .i64 0, .string ⟨#[]⟩, .slice none 0 0], .int .i64 2]) (by simp [results, Tryd.results48, go_sem]) rfl ⟨3, 0, ⟨#[]⟩, none, [], 0, 2, rfl, ?_, ⟨by decide, by decide⟩, fun x hx => by simp at hx, .inl rfl, HZ.out⟩
    exact (Below.refl _ _).alloc (Nat.le_refl _) _
end Go.Proofs.YtoiahhfjejddjaaDoor
