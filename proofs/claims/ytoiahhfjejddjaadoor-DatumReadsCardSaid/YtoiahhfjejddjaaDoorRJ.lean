/- The reference's Parse, plainly: what its loop knows of a list's text. -/
import Derived.Test.YtoiahhfjejddjaaDoorRI
import Derived.Test.YtoiahhfjejddjaaDoorL
set_option maxRecDepth 100000
namespace Go.Proofs.YtoiahhfjejddjaaDoor
open Go Go.RowKit

/-- What follows an item within a list's text. -/
def tailT (y3 : List It) : List UInt8 := (if y3 = [] then [] else 44 :: commaT y3) ++ [93]
theorem comma_tail (y : It) (y3 : List It) : commaT (y :: y3) ++ [93] = itemT y.k y.n y.s ++ tailT y3 := by
  rw [commaT_cons, tailT, List.append_assoc]
theorem tailT_head (y3 : List It) : ∃ c d, tailT y3 = c :: d ∧ (c = 44 ∧ y3 ≠ [] ∧ d = commaT y3 ++ [93] ∨ c = 93 ∧ y3 = [] ∧ d = []) := by
  unfold tailT
  by_cases h : y3 = []
  · rw [if_pos h]; exact ⟨93, [], rfl, .inr ⟨rfl, h, rfl⟩⟩
  · rw [if_neg h]; exact ⟨44, _, rfl, .inl ⟨rfl, h, rfl⟩⟩
theorem tailT_num (y3 : List It) : ∀ c, (tailT y3).head? = some c → numC c = false := by
  obtain ⟨c, d, e, h⟩ := tailT_head y3
  intro c' hc
  rw [e] at hc
  injection hc with hc
  subst hc
  rcases h with ⟨rfl, _⟩ | ⟨rfl, _⟩ <;> decide

/-- acc is read, the item that begins at frm is sought, i is not behind its end. -/
def ScanP (s : List UInt8) (acc : List It) (frm i : Nat) : Prop :=
  ∀ ys, s = 91 :: (commaT ys ++ [93]) → Good ys → ys.length ≤ 8 → ∃ y2, ys.map cont = acc.map cont ++ y2.map cont ∧ Good y2 ∧
    (y2 = [] ∧ frm = s.length ∨ ∃ y y3, y2 = y :: y3 ∧ s.drop frm = itemT y.k y.n y.s ++ tailT y3 ∧ i ≤ frm + (itemT y.k y.n y.s).length)

theorem ScanP.start {s : List UInt8} (h : 2 < s.length) : ScanP s [] 1 1 := by
  intro ys hs hg _
  refine ⟨ys, by simp, hg, .inr ?_⟩
  cases ys with
  | nil => rw [hs] at h; simp [commaT] at h
  | cons y y3 => exact ⟨y, y3, rfl, by rw [hs, ← comma_tail]; rfl, by omega⟩

/-- The last byte of a list's text, and where an item's end lies. -/
theorem end_at {s : List UInt8} {frm : Nat} {y : It} {y3 : List It} (hd : s.drop frm = itemT y.k y.n y.s ++ tailT y3) :
    s.drop (frm + (itemT y.k y.n y.s).length) = tailT y3 ∧ frm + (itemT y.k y.n y.s).length < s.length := by
  have h1 : s.drop (frm + (itemT y.k y.n y.s).length) = tailT y3 := by
    rw [← List.drop_drop, hd, List.drop_left]
  refine ⟨h1, ?_⟩
  obtain ⟨c, d, e, _⟩ := tailT_head y3
  have := congrArg List.length h1
  rw [e] at this
  simp at this
  omega

/-- A byte that ends no item. -/
theorem ScanP.skip {s : List UInt8} {acc : List It} {frm i : Nat} (h : ScanP s acc frm i) (hi : i + 1 < s.length) (hc : s[i]'(by omega) ≠ 44) : ScanP s acc frm (i + 1) := by
  intro ys hs hg hl
  obtain ⟨y2, e1, hG, h2⟩ := h ys hs hg hl
  refine ⟨y2, e1, hG, ?_⟩
  rcases h2 with h2 | ⟨y, y3, e2, hd, hle⟩
  · exact .inl h2
  · refine .inr ⟨y, y3, e2, hd, ?_⟩
    have ⟨q1, q2⟩ := end_at hd
    by_cases he : i = frm + (itemT y.k y.n y.s).length
    · exfalso
      rw [← he, drop_cons (by omega)] at q1
      obtain ⟨c, d, e, hcd⟩ := tailT_head y3
      rw [e] at q1
      injection q1 with q3 q4
      rcases hcd with ⟨rfl, _⟩ | ⟨rfl, _, rfl⟩
      · exact hc q3
      · have := congrArg List.length q4
        simp at this
        omega
    · omega

theorem last_93 {s ys : List UInt8} (hs : s = 91 :: (ys ++ [93])) {i : Nat} (hi : i < s.length) (hl : s.length ≤ i + 1) : s[i]'hi = 93 := by
  have h1 : i = ys.length + 1 := by
    rw [hs] at hi hl
    simp at hi hl
    omega
  subst hs; subst h1
  simp

theorem ok_zero {y : It} (h : y.ok = true) : itemOk y.k y.n y.s 0 = true := itemOk_of ⟨by omega, (itemOk_true h).2⟩

theorem cut_cat {s : List UInt8} {frm i : Nat} (hf : frm ≤ i) : (s.drop frm).take (i - frm) ++ s.drop i = s.drop frm := by
  have : s.drop i = (s.drop frm).drop (i - frm) := by rw [List.drop_drop]; congr 1; omega
  rw [this, List.take_append_drop]

/-- The piece is an item's text: it is the item that was sought. -/
theorem ScanP.item {s : List UInt8} {acc : List It} {frm i : Nat} (h : ScanP s acc frm i) (hf : frm ≤ i) (hi : i < s.length) (hc : s[i]'hi = 44 ∨ s.length ≤ i + 1) {k n : Int} {t : ByteArray} (hok : itemOk k n t 0 = true) (hn : I64 n)
    (hp : itemT k n t = (s.drop frm).take (i - frm)) (x : It) (hx : cont x = (k, n, t)) : ScanP s (acc ++ [x]) (i + 1) (i + 1) := by
  intro ys hs hg hl
  obtain ⟨y2, e1, hG, h2⟩ := h ys hs hg hl
  rcases h2 with ⟨_, h2⟩ | ⟨y, y3, e2, hd, hle⟩
  · omega
  · subst e2
    have hy := hG y (by simp)
    have hcat : itemT k n t ++ s.drop i = itemT y.k y.n y.s ++ tailT y3 := by rw [hp, ← hd, cut_cat hf]
    have hhd : ∀ c, (s.drop i).head? = some c → numC c = false := by
      intro c hcc
      rw [drop_cons hi] at hcc
      injection hcc with hcc
      subst hcc
      rcases hc with hc | hc
      · rw [hc]; decide
      · rw [last_93 hs hi hc]; decide
    obtain ⟨a1, a2, a3, a4⟩ := item_pfx hok (ok_zero hy.1) hn hy.2 hhd (tailT_num y3) hcat
    have hxy : cont x = cont y := by rw [hx, a1, a2, a3]; rfl
    refine ⟨y3, by rw [e1]; simp [hxy], fun z hz => hG z (by simp [hz]), ?_⟩
    obtain ⟨c, d, e, hcd⟩ := tailT_head y3
    rw [drop_cons hi, e] at a4
    injection a4 with a5 a6
    rcases hcd with ⟨_, hne, hdd⟩ | ⟨_, he, hdd⟩
    · right
      cases y3 with
      | nil => exact absurd rfl hne
      | cons z zs => exact ⟨z, zs, rfl, by rw [a6, hdd, comma_tail], by omega⟩
    · left
      refine ⟨he, ?_⟩
      have := congrArg List.length a6
      rw [hdd] at this
      simp at this
      omega

/-- The piece is no item's text: the item goes on. -/
theorem ScanP.miss {s : List UInt8} {acc : List It} {frm i : Nat} (h : ScanP s acc frm i) (hno : ∀ k n t, itemOk k n t 0 = true → I64 n → itemT k n t ≠ (s.drop frm).take (i - frm)) : ScanP s acc frm (i + 1) := by
  intro ys hs hg hl
  obtain ⟨y2, e1, hG, h2⟩ := h ys hs hg hl
  refine ⟨y2, e1, hG, ?_⟩
  rcases h2 with h2 | ⟨y, y3, e2, hd, hle⟩
  · exact .inl h2
  · refine .inr ⟨y, y3, e2, hd, ?_⟩
    have hy := hG y (by simp [e2])
    by_cases he : i = frm + (itemT y.k y.n y.s).length
    · exfalso
      refine hno _ _ _ (ok_zero hy.1) hy.2 ?_
      rw [hd, he, Nat.add_sub_cancel_left, List.take_left]
    · omega

/-- The piece is no item's and is not quoted: no list has this text. -/
theorem ScanP.bad {s : List UInt8} {acc : List It} {frm i : Nat} (h : ScanP s acc frm i) (hf : frm ≤ i) (hi : i < s.length) (hc : s[i]'hi = 44 ∨ s.length ≤ i + 1) (hno : ∀ k n t, itemOk k n t 0 = true → I64 n → itemT k n t ≠ (s.drop frm).take (i - frm))
    (hq : ((s.drop frm).take (i - frm)).head? ≠ some 39) : ∀ ys, s = 91 :: (commaT ys ++ [93]) → Good ys → ys.length ≤ 8 → False := by
  intro ys hs hg hl
  obtain ⟨y2, e1, hG, h2⟩ := h.miss hno ys hs hg hl
  rcases h2 with ⟨_, h2⟩ | ⟨y, y3, e2, hd, hle⟩
  · omega
  · subst e2
    have hy := hG y (by simp)
    obtain ⟨_, q2⟩ := end_at hd
    have hc4 : s[i]'hi = 44 := hc.resolve_right (by omega)
    have hin : (itemT y.k y.n y.s)[i - frm]'(by omega) = 44 := by
      have e3 : (s.drop frm)[i - frm]? = some 44 := by
        rw [List.getElem?_drop, show frm + (i - frm) = i by omega, List.getElem?_eq_getElem hi, hc4]
      rw [hd, List.getElem?_append_left (by omega), List.getElem?_eq_getElem (by omega)] at e3
      exact Option.some.inj e3
    rcases (itemOk_true hy.1).2 with ⟨b1, _⟩ | ⟨b1, _, _⟩
    · have h3 : itemT y.k y.n y.s = Lib.itoa y.n := by unfold itemT; rw [if_pos b1]
      have h4 := itoa_numC y.n 44 (by
        have := List.getElem_mem (l := itemT y.k y.n y.s) (n := i - frm) (by omega)
        rw [hin] at this
        rw [← h3]
        exact this)
      exact absurd h4 (by decide)
    · have h3 : itemT y.k y.n y.s = 39 :: (y.s.data.toList.flatMap pB ++ [39]) := by unfold itemT; rw [if_neg (by rw [b1]; decide)]; rfl
      by_cases he : i = frm
      · have h5 : (itemT y.k y.n y.s)[i - frm]? = some 44 := by rw [List.getElem?_eq_getElem (by omega), hin]
        rw [he, Nat.sub_self, h3] at h5
        simp at h5
      · apply hq
        obtain ⟨m, hm⟩ : ∃ m, i - frm = m + 1 := ⟨i - frm - 1, by omega⟩
        rw [hd, h3, hm]
        rfl

theorem ScanP.full {s : List UInt8} {acc : List It} {frm i : Nat} (h : ScanP s acc frm i) (hf : frm ≤ i) (hi : i < s.length) (ha : acc.length = 8) : ∀ ys, s = 91 :: (commaT ys ++ [93]) → Good ys → ys.length ≤ 8 → False := by
  intro ys hs hg hl
  obtain ⟨y2, e1, _, h2⟩ := h ys hs hg hl
  have := congrArg List.length e1
  simp at this
  rcases h2 with ⟨_, h2⟩ | ⟨y, y3, e2, _⟩
  · omega
  · rw [e2] at this; simp at this; omega

theorem ScanP.done {s : List UInt8} {acc : List It} {frm i : Nat} (h : ScanP s acc frm i) (hi : s.length ≤ i) : ∀ ys, s = 91 :: (commaT ys ++ [93]) → Good ys → ys.length ≤ 8 → ys.map cont = acc.map cont := by
  intro ys hs hg hl
  obtain ⟨y2, e1, _, h2⟩ := h ys hs hg hl
  rcases h2 with ⟨h2, _⟩ | ⟨y, y3, e2, hd, hle⟩
  · rw [e1, h2]; simp
  · have := (end_at hd).2
    omega

theorem scan_two {s : List UInt8} (hs2 : s.length ≤ 2) : ∀ ys, s = 91 :: (commaT ys ++ [93]) → Good ys → ys.length ≤ 8 → ys.map cont = [] := by
  intro ys hs _ _
  cases ys with
  | nil => rfl
  | cons y y3 =>
    exfalso
    rw [comma_tail] at hs
    have h1 := congrArg List.length hs
    have h2 := itemT_ne y.k y.n y.s
    obtain ⟨c, d, e, _⟩ := tailT_head y3
    rw [e] at h1
    simp at h1
    omega
end Go.Proofs.YtoiahhfjejddjaaDoor
