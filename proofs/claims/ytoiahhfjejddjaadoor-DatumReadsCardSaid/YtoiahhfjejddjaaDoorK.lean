/- The contracts of readText and readItem: for every string of at most 2^47 bytes; other memory stands. -/
import Derived.Test.YtoiahhfjejddjaaDoorJ
set_option maxRecDepth 100000
namespace Go.Proofs.YtoiahhfjejddjaaDoor
open Go Go.RowKit

/-- How far the text's text has been read: what is held so far, and what is left. -/
def Scan (s : List UInt8) (acc : List UInt8) (j : Nat) : Prop :=
  ∀ t r, s = pText t ++ r → t.length ≤ 32 → ∃ t2, t = acc ++ t2 ∧ s.drop j = t2.flatMap pB ++ 39 :: r

theorem Scan.start {s : List UInt8} : Scan s [] 1 := by
  intro t r hs _
  refine ⟨t, rfl, ?_⟩
  rw [hs]
  simp [pText]

theorem drop_cons {s : List UInt8} {j : Nat} (h : j < s.length) : s.drop j = s[j]'h :: s.drop (j + 1) := List.drop_eq_getElem_cons h

theorem Scan.plain {s acc : List UInt8} {j : Nat} (h : Scan s acc j) (hj : j < s.length) (h39 : s[j]'hj ≠ 39) (h37 : s[j]'hj ≠ 37) : Scan s (acc ++ [s[j]'hj]) (j + 1) := by
  intro t r hs ht
  obtain ⟨t2, e1, e2⟩ := h t r hs ht
  rw [drop_cons hj] at e2
  obtain ⟨t3, e3, e4⟩ := scan_plain e2 h39 h37
  exact ⟨t3, by rw [e1, e3]; simp, e4⟩

/-- What stands behind a '%'. -/
theorem Scan.esc {s acc : List UInt8} {j : Nat} (h : Scan s acc j) (hj : j < s.length) (h37 : s[j]'hj = 37) : ∀ t r, s = pText t ++ r → t.length ≤ 32 →
    ∃ u t3 r3, t = acc ++ u :: t3 ∧ s.drop (j + 1) = hexD (u.toNat / 16) :: hexD (u.toNat % 16) :: r3 ∧ r3 = t3.flatMap pB ++ 39 :: r := by
  intro t r hs ht
  obtain ⟨t2, e1, e2⟩ := h t r hs ht
  rw [drop_cons hj, h37] at e2
  obtain ⟨u, t3, e3, e4⟩ := scan_esc e2
  exact ⟨u, t3, _, by rw [e1, e3], e4, rfl⟩

theorem Scan.esc_step {s acc : List UInt8} {j : Nat} (h : Scan s acc j) (hj : j < s.length) (h37 : s[j]'hj = 37) {u : UInt8} {b : Bool} (hu : ∀ (v : UInt8) r, s.drop (j + 1) = hexD (v.toNat / 16) :: hexD (v.toNat % 16) :: r → u = v ∧ b = true) : Scan s (acc ++ [u]) (j + 3) := by
  intro t r hs ht
  obtain ⟨v, t3, r3, e1, e2, e3⟩ := h.esc hj h37 t r hs ht
  obtain ⟨rfl, _⟩ := hu v r3 e2
  refine ⟨t3, by rw [e1]; simp, ?_⟩
  have : s.drop (j + 3) = (s.drop (j + 1)).drop 2 := by rw [List.drop_drop]
  rw [this, e2, ← e3]
  rfl

/-- The clause of an end without a datum. -/
theorem Scan.none {s acc : List UInt8} {j : Nat} (h : Scan s acc j) (hno : s.length ≤ j ∨ 32 < acc.length) : Clause (· = 2) s 0 0 ⟨#[]⟩ 0 := by
  rintro k' n' t' r rfl hit _ _ hs
  rw [itemT, if_neg (by decide)] at hs
  have hlen : t'.data.toList.length ≤ 32 := by
    rcases (itemOk_true hit).2 with ⟨h, _⟩ | ⟨_, _, h⟩
    · omega
    · have e : t'.data.toList.length = t'.size := rfl
      omega
  obtain ⟨t2, e1, e2⟩ := h _ r hs hlen
  exfalso
  rcases hno with hno | hno
  · rw [List.drop_of_length_le hno] at e2
    have := congrArg List.length e2
    simp at this
  · rw [e1, List.length_append] at hlen; omega

theorem Scan.bad {s acc : List UInt8} {j : Nat} (h : Scan s acc j) (hj : j < s.length) (h37 : s[j]'hj = 37) {u : UInt8} (hu : ∀ (v : UInt8) r, s.drop (j + 1) = hexD (v.toNat / 16) :: hexD (v.toNat % 16) :: r → u = v ∧ false = true) : Clause (· = 2) s 0 0 ⟨#[]⟩ 0 := by
  rintro k' n' t' r rfl hit _ _ hs
  rw [itemT, if_neg (by decide)] at hs
  have hlen : t'.data.toList.length ≤ 32 := by
    rcases (itemOk_true hit).2 with ⟨h, _⟩ | ⟨_, _, h⟩
    · omega
    · have e : t'.data.toList.length = t'.size := rfl
      omega
  obtain ⟨v, t3, r3, e1, e2, e3⟩ := h.esc hj h37 _ r hs hlen
  exact absurd (hu v r3 e2).2 (by decide)

theorem Scan.done {s acc : List UInt8} {j : Nat} (h : Scan s acc j) (hj : j < s.length) (h39 : s[j]'hj = 39) : Clause (· = 2) s 2 0 ⟨acc.toArray⟩ (j + 1) := by
  rintro k' n' t' r rfl hit _ _ hs
  rw [itemT, if_neg (by decide)] at hs
  obtain ⟨hlen, hn⟩ : t'.data.toList.length ≤ 32 ∧ n' = 0 := by
    rcases (itemOk_true hit).2 with ⟨h, _⟩ | ⟨_, hn, h⟩
    · omega
    · have e : t'.data.toList.length = t'.size := rfl
      exact ⟨by omega, hn⟩
  obtain ⟨t2, e1, e2⟩ := h _ r hs hlen
  rw [drop_cons hj, h39] at e2
  obtain ⟨rfl, e3⟩ := scan_quote e2
  rw [List.append_nil] at e1
  refine ⟨rfl, hn.symm, ?_, ?_⟩
  · apply ByteArray.ext
    apply Array.toList_inj.1
    simp [e1]
  · rw [itemT, if_neg (by decide)]
    have q1 := congrArg List.length e3
    have q2 := congrArg List.length hs
    rw [List.length_drop] at q1
    rw [List.length_append] at q2
    omega

theorem toList_size (s : ByteArray) : s.data.toList.length = s.size := rfl

theorem u8_is {u : UInt8} {c : UInt8} (h : u = c) : ((u.toNat : Int) == (c.toNat : Int)) = true := by subst h; simp
theorem u8_not {u : UInt8} {c : UInt8} (h : u ≠ c) : ((u.toNat : Int) == (c.toNat : Int)) = false := by
  rw [beq_eq_false_iff_ne]
  intro h'
  exact h (UInt8.toNat_inj.1 (by omega))

theorem blen (B b : Nat) (acc : List UInt8) (w : World) (h : Lib.IsBuilderF 54 5 B b (Lib.byteCells acc) w) :
    Calls Tryd.prog 70 #[.pointer (some ⟨b, 0, none⟩)] w fun e w' => e = .returned (.int .i64 acc.length) ∧ w = w' := by
  refine (Tryd.Builder_Len_f B b _ w h).mono ?_
  rintro e w' ⟨rfl, rfl⟩
  rw [Lib.byteCells_length]
  exact ⟨rfl, rfl⟩

theorem fresh_above (w : World) (o : Obj) : Lib.IsBuilderF 54 5 (w.heap.size + 1) (w.heap.size + 1) (Lib.byteCells []) ((w.alloc o).alloc (.cells #[.pointer none, .slice none 0 0] 54)) := by
  have h := Lib.fresh_isBuilder 54 5 (w.alloc o)
  rw [World.size_alloc] at h
  exact Lib.IsBuilderF.of h

theorem extract_drop (s : ByteArray) (j : Nat) : (s.extract j s.size).data.toList = s.data.toList.drop j := by
  rw [Lib.extract_data]
  exact List.take_of_length_le (by rw [List.length_drop]; exact Nat.le_refl _)
theorem extract_small (s : ByteArray) (j : Nat) (hs : s.size ≤ 140737488355328) : (s.extract j s.size).size ≤ 140737488355328 := by
  have e1 : (s.extract j s.size).size = (s.extract j s.size).data.toList.length := rfl
  have e2 : s.data.toList.length = s.size := rfl
  rw [e1, extract_drop, List.length_drop]
  omega

/-- Four stores into a result's own box. -/
theorem below_res {w w1 : World} {v0 v1 v2 v3 : Value} (h : Below w.heap.size w w1) : Below w.heap.size w ((((w1.setCell ⟨w.heap.size, 0, none⟩ v0).setCell ⟨w.heap.size, 1, none⟩ v1).setCell ⟨w.heap.size, 2, none⟩ v2).setCell ⟨w.heap.size, 3, none⟩ v3) :=
  (((h.setCell (p := ⟨w.heap.size, 0, none⟩) (Nat.le_refl _) _).setCell (p := ⟨w.heap.size, 1, none⟩) (Nat.le_refl _) _).setCell (p := ⟨w.heap.size, 2, none⟩) (Nat.le_refl _) _).setCell (p := ⟨w.heap.size, 3, none⟩) (Nat.le_refl _) _

set_option maxHeartbeats 3200000 in
theorem readText_any (s : ByteArray) (w : World) (hs : s.size ≤ 140737488355328) (h1s : 1 ≤ s.size) : Calls Tryd.prog 63 #[.string s] w (ReadPost (· = 2) s.data.toList w) := by
  have HLEN := Lib.hid (toList_size s)
  go_enter Tryd.func63, Tryd.ntmps63
  go_wp2
  go_loopw [5] (fun i wr => ∃ (j : Nat) (acc : List UInt8), j ≤ s.size ∧ i = .int .i64 j ∧ acc.length ≤ 33 ∧ Hid (Lib.IsBuilderF 54 5 (w.heap.size + 1) (w.heap.size + 1) (Lib.byteCells acc) wr) ∧ Below (w.heap.size + 1) (w.alloc (.cells #[.int .i64 0, .int .i64 0, .string ⟨#[]⟩, .slice none 0 0] 24)) wr ∧ w.heap.size + 1 < wr.heap.size ∧ Hid (Scan s.data.toList acc j)) (fun i _ => s.size - (intOf i).toNat)
  case atStart => exact ⟨1, [], h1s, rfl, by simp, Lib.hid (fresh_above _ _), (Below.refl _ _).alloc (by simp) _, by simp, Lib.hid Scan.start⟩
  case round =>
    obtain ⟨j, acc, hj, rfl, hacc, HI, hb, hsz, HC⟩ := hrel
    obtain ⟨c0, c1, c2, c3⟩ := box_cells hb
    obtain ⟨f0, f1, f2, f3⟩ := box_frozen hb
    have HB := Lib.hid hb; clear hb
    have HBW : Hid (Below w.heap.size w wr) := Lib.hid (below_al _ (by simpa using HB.out))
    by_cases hlt : j < s.size
    · have hlt' : j < s.data.toList.length := hlt
      by_cases ha : acc.length ≤ 32
      · by_cases h39 : s[j] = 39
        · have b39 : ((s[j].toNat : Int) == 39) = true := u8_is h39
          have HN := Lib.hid (HC.out.done hlt' h39); clear h39
          go_wp2_with fail
          refine (blen _ _ _ _ HI.out).mono ?_
          rintro e w' ⟨rfl, rfl⟩
          go_wp2_with fail
          refine (Tryd.Builder_String_any_k (w.heap.size + 1) (w.heap.size + 1) _ _ HI.out (by omega)).mono ?_
          rintro e w1 ⟨rfl, h1, hb1, hk1⟩
          have HB1 := Lib.hid (HB.out.trans hb1)
          obtain ⟨d0, d1, d2, d3⟩ := box_cells HB1.out
          obtain ⟨g0, g1, g2, g3⟩ := box_frozen HB1.out
          have HBW1 : Hid (Below w.heap.size w w1) := Lib.hid (below_al _ (by simpa using HB1.out))
          go_wp2
          refine bodyPost_ret (v := .tuple #[.agg #[.int .i64 2, .int .i64 0, .string ⟨acc.toArray⟩, .slice none 0 0], .int .i64 ((j + 1 : Nat) : Int)]) (by simp [results, Tryd.results63, go_sem, d0, d1, d2, d3]) rfl ⟨_, _, _, j + 1, rfl, below_res HBW1.out, ⟨by decide, by decide⟩, by have := HLEN.out; omega, by simp [ByteArray.size]; omega, HN.out⟩
        · by_cases h37 : s[j] = 37
          · have b39 : ((s[j].toNat : Int) == 39) = false := u8_not h39
            have b37 : ((s[j].toNat : Int) == 37) = true := u8_is h37
            have HN := Lib.hid h37; clear h37 h39
            go_wp2_with fail
            refine (blen _ _ _ _ HI.out).mono ?_
            rintro e w' ⟨rfl, rfl⟩
            go_wp2_with fail
            refine (readHex_any _ _ (extract_small s _ hs)).mono ?_
            rintro e w1 ⟨hb1, u, b, rfl, hb2, hu⟩
            rw [extract_drop] at hb2 hu
            have HI1 := Lib.hid (isBuilderF_below HI.out hb1)
            have HB1 := Lib.hid (HB.out.trans (hb1.mono (by omega)))
            have hz1 := hb1.size
            obtain ⟨d0, d1, d2, d3⟩ := box_cells HB1.out
            obtain ⟨g0, g1, g2, g3⟩ := box_frozen HB1.out
            have HBW1 : Hid (Below w.heap.size w w1) := Lib.hid (below_al _ (by simpa using HB1.out))
            clear hb1
            cases b
            · have HU := Lib.hid (HC.out.bad hlt' HN.out hu); clear hu hb2
              go_wp2
              refine bodyPost_ret (v := .tuple #[.agg #[.int .i64 0, .int .i64 0, .string ⟨#[]⟩, .slice none 0 0], .int .i64 0]) (by simp [results, Tryd.results63, go_sem, d0, d1, d2, d3]) rfl ⟨_, _, _, 0, rfl, below_res HBW1.out, ⟨by decide, by decide⟩, Nat.zero_le _, by decide, HU.out⟩
            · have HU := Lib.hid (HC.out.esc_step hlt' HN.out hu); clear hu
              have hj3 : j + 3 ≤ s.size := by
                have := hb2 rfl
                rw [List.length_drop] at this
                have := HLEN.out
                omega
              clear hb2
              go_wp2_with fail
              refine (writeByte_k (w.heap.size + 1) (w.heap.size + 1) _ _ _ HI1.out (by rw [Lib.byteCells_length]; omega) (by omega)).mono ?_
              rintro e w2 ⟨rfl, h1, hb2, hk2⟩
              have HI2 : Hid (Lib.IsBuilderF 54 5 (w.heap.size + 1) (w.heap.size + 1) (Lib.byteCells (acc ++ [u])) w2) := Lib.hid (by rw [Lib.byteCells_append]; exact .inr h1)
              have HB2 := Lib.hid (HB1.out.trans hb2)
              have hz2 := hb2.size
              clear h1 hb2 hk2
              go_wp2
              go_roundw
              case rel => exact ⟨j + 3, acc ++ [u], hj3, by go_num, by simp; omega, HI2, HB2.out, by omega, HU⟩
              case measure => simp [intOf]; omega
          · have b39 : ((s[j].toNat : Int) == 39) = false := u8_not h39
            have b37 : ((s[j].toNat : Int) == 37) = false := u8_not h37
            have HN := Lib.hid (HC.out.plain hlt' h39 h37); clear h39 h37
            go_wp2_with fail
            refine (blen _ _ _ _ HI.out).mono ?_
            rintro e w' ⟨rfl, rfl⟩
            go_wp2_with fail
            refine (writeByte_k (w.heap.size + 1) (w.heap.size + 1) _ _ _ HI.out (by rw [Lib.byteCells_length]; omega) (by omega)).mono ?_
            rintro e w1 ⟨rfl, h1, hb1, hk1⟩
            have HI1 : Hid (Lib.IsBuilderF 54 5 (w.heap.size + 1) (w.heap.size + 1) (Lib.byteCells (acc ++ [s[j]])) w1) := Lib.hid (by rw [Lib.byteCells_append]; exact .inr h1)
            have HB1 := Lib.hid (HB.out.trans hb1)
            have hz1 := hb1.size
            clear h1 hb1 hk1
            go_wp2
            go_roundw
            case rel => exact ⟨j + 1, acc ++ [s[j]], by omega, by go_num, by simp; omega, HI1, HB1.out, by omega, HN⟩
            case measure => simp [intOf]; omega
      · have HN := Lib.hid (HC.out.none (.inr (by omega)))
        go_wp2_with fail
        refine (blen _ _ _ _ HI.out).mono ?_
        rintro e w' ⟨rfl, rfl⟩
        go_wp2
        refine bodyPost_ret (v := .tuple #[.agg #[.int .i64 0, .int .i64 0, .string ⟨#[]⟩, .slice none 0 0], .int .i64 0]) (by simp [results, Tryd.results63, go_sem, c0, c1, c2, c3]) rfl ⟨_, _, _, 0, rfl, below_res HBW.out, ⟨by decide, by decide⟩, Nat.zero_le _, by decide, HN.out⟩
    · have HN := Lib.hid (HC.out.none (.inl (by have := HLEN.out; omega)))
      go_wp2
      refine bodyPost_ret (v := .tuple #[.agg #[.int .i64 0, .int .i64 0, .string ⟨#[]⟩, .slice none 0 0], .int .i64 0]) (by simp [results, Tryd.results63, go_sem, c0, c1, c2, c3]) rfl ⟨_, _, _, 0, rfl, below_res HBW.out, ⟨by decide, by decide⟩, Nat.zero_le _, by decide, HN.out⟩

theorem Clause.of_two {s : List UInt8} {k n : Int} {t : ByteArray} {m : Nat} {c : UInt8} {s' : List UInt8} (hs : s = c :: s') (hc : c = 39) (h : Clause (· = 2) s k n t m) : Clause (fun _ => True) s k n t m := by
  intro k' n' t' r _ hit hn hr hs'
  rcases (itemOk_true hit).2 with ⟨h1, _⟩ | ⟨h1, _⟩
  · exfalso
    subst h1
    obtain ⟨c', r', e, h39, _⟩ := itoa_head n'
    rw [itemT, if_pos rfl, e, hs, hc] at hs'
    injection hs' with q _
    exact h39 q.symm
  · exact h k' n' t' r h1 hit hn hr hs'
theorem Clause.of_one {s : List UInt8} {k n : Int} {t : ByteArray} {m : Nat} (hs : ∀ c s', s = c :: s' → c ≠ 39) (h : Clause (· = 1) s k n t m) : Clause (fun _ => True) s k n t m := by
  intro k' n' t' r _ hit hn hr hs'
  rcases (itemOk_true hit).2 with ⟨h1, _⟩ | ⟨h1, _⟩
  · exact h k' n' t' r h1 hit hn hr hs'
  · exfalso
    subst h1
    rw [itemT, if_neg (by decide)] at hs'
    exact hs 39 _ (by rw [hs']; rfl) rfl

set_option maxHeartbeats 1600000 in
theorem readItem_any (s : ByteArray) (w : World) (hL : Hid (Laid w)) (hs : s.size ≤ 140737488355328) : Calls Tryd.prog 47 #[.string s] w (ReadPost (fun _ => True) s.data.toList w) := by
  have HLEN := Lib.hid (toList_size s)
  have hL1 : ∀ o : Obj, Hid (Laid (w.alloc o)) := fun o => Lib.hid (hL.out.below ((Below.refl _ _).alloc (Nat.le_refl _) _) hL.out.six)
  by_cases hq : ∃ h : 0 < s.size, s[0] = 39
  · obtain ⟨h0, h39⟩ := hq
    have b39 : ((s[0].toNat : Int) == 39) = true := u8_is h39
    have HQ : Hid (∃ s', s.data.toList = 39 :: s') := Lib.hid ⟨s.data.toList.drop 1, by
      have e1 : s.data.toList.drop 0 = s.data.toList[0]'(by have := HLEN.out; omega) :: s.data.toList.drop 1 := List.drop_eq_getElem_cons (by have := HLEN.out; omega)
      rw [show s.data.toList[0]'(by have := HLEN.out; omega) = 39 from h39] at e1
      exact e1⟩
    clear h39
    go_enter Tryd.func47, Tryd.ntmps47
    go_wp2_with fail
    refine (readText_any _ _ hs (by omega)).mono ?_
    rintro e w1 ⟨k, n, t, m, rfl, hb, hn, hm, ht, hc⟩
    obtain ⟨c0, c1, c2, c3⟩ := box_cells (by simpa using hb)
    obtain ⟨f0, f1, f2, f3⟩ := box_frozen (by simpa using hb)
    have HB := Lib.hid (below_al _ hb)
    have HN := Lib.hid hn; have HM := Lib.hid hm; have HT := Lib.hid ht; have HC := Lib.hid hc; clear hb hn hm ht hc
    go_wp2
    refine bodyPost_ret (v := .tuple #[.agg #[.int .i64 k, .int .i64 n, .string t, .slice none 0 0], .int .i64 m]) (by simp [results, Tryd.results47, go_sem, c0, c1, c2, c3]) rfl ⟨_, _, _, m, rfl, below_res HB.out, HN.out, HM.out, HT.out, ?_⟩
    obtain ⟨s', hs'⟩ := HQ.out
    exact HC.out.of_two hs' rfl
  · have HQ : Hid (∀ c s', s.data.toList = c :: s' → c ≠ 39) := Lib.hid (fun c s' h hc => hq (by
      have hl := HLEN.out
      rw [h] at hl
      simp at hl
      refine ⟨by omega, ?_⟩
      have e : s.data.toList[0]'(by rw [h]; simp) = c := by simp [h]
      exact (show s[0]'(by omega) = s.data.toList[0]'(by rw [h]; simp) from rfl).trans (e.trans hc)))
    by_cases h0 : 0 < s.size
    · have b39 : ((s[0].toNat : Int) == 39) = false := u8_not (fun h => hq ⟨h0, h⟩)
      clear hq
      go_enter Tryd.func47, Tryd.ntmps47
      go_wp2_with fail
      refine (readInt_any _ _ (hL1 _) hs).mono ?_
      rintro e w1 ⟨k, n, t, m, rfl, hb, hn, hm, ht, hc⟩
      obtain ⟨c0, c1, c2, c3⟩ := box_cells (by simpa using hb)
      obtain ⟨f0, f1, f2, f3⟩ := box_frozen (by simpa using hb)
      have HB := Lib.hid (below_al _ hb)
      have HN := Lib.hid hn; have HM := Lib.hid hm; have HT := Lib.hid ht; have HC := Lib.hid hc; clear hb hn hm ht hc
      go_wp2
      exact bodyPost_ret (v := .tuple #[.agg #[.int .i64 k, .int .i64 n, .string t, .slice none 0 0], .int .i64 m]) (by simp [results, Tryd.results47, go_sem, c0, c1, c2, c3]) rfl ⟨_, _, _, m, rfl, below_res HB.out, HN.out, HM.out, HT.out, HC.out.of_one HQ.out⟩
    · clear hq
      go_enter Tryd.func47, Tryd.ntmps47
      go_wp2_with fail
      refine (readInt_any _ _ (hL1 _) hs).mono ?_
      rintro e w1 ⟨k, n, t, m, rfl, hb, hn, hm, ht, hc⟩
      obtain ⟨c0, c1, c2, c3⟩ := box_cells (by simpa using hb)
      obtain ⟨f0, f1, f2, f3⟩ := box_frozen (by simpa using hb)
      have HB := Lib.hid (below_al _ hb)
      have HN := Lib.hid hn; have HM := Lib.hid hm; have HT := Lib.hid ht; have HC := Lib.hid hc; clear hb hn hm ht hc
      go_wp2
      exact bodyPost_ret (v := .tuple #[.agg #[.int .i64 k, .int .i64 n, .string t, .slice none 0 0], .int .i64 m]) (by simp [results, Tryd.results47, go_sem, c0, c1, c2, c3]) rfl ⟨_, _, _, m, rfl, below_res HB.out, HN.out, HM.out, HT.out, HC.out.of_one HQ.out⟩
end Go.Proofs.YtoiahhfjejddjaaDoor
