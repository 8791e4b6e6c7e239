/- Data and entries by content; the document's lists of entries in plain words. No program's function is met here. -/
import Derived.Test.YtnnmigglcpkomaaDD
set_option maxRecDepth 100000
namespace Go.Proofs.Ytnnmigglcpkomaa.Dm
open Go Go.RowKit

/-- An item by content: its kind, number, text, and how long a list it has. -/
abbrev Ic := Int × Int × ByteArray × Nat
def itC (x : It) : Ic := (x.k, x.n, x.s, x.ll)
/-- A datum by content. -/
abbrev Dt := Int × Int × ByteArray × List Ic
/-- An entry by content. -/
abbrev Et := Dt × Int
def icIt (c : Ic) : It := ⟨c.1, c.2.1, c.2.2.1, none, c.2.2.2, 0⟩
def Dt.ok (d : Dt) : Bool := dOk d.1 d.2.1 d.2.2.1 (d.2.2.2.map icIt)
def Dt.kb (d : Dt) : List UInt8 := datB d.1 d.2.1 d.2.2.1 (d.2.2.2.map icIt)
/-- The numbers are ints. -/
def Dt.nums (d : Dt) : Prop := I64 d.2.1 ∧ ∀ c, c ∈ d.2.2.2 → I64 c.2.1
theorem itemsB_map (xs : List It) : itemsB ((xs.map itC).map icIt) = itemsB xs := by
  induction xs with
  | nil => rfl
  | cons x l ih =>
    have e : ∀ (z : It) (l : List It), itemsB (z :: l) = itemB z.k z.n z.s ++ itemsB l := fun z l => by simp [itemsB]
    rw [List.map_cons, List.map_cons, e, e, ih]; rfl
theorem all_map (xs : List It) : ((xs.map itC).map icIt).all It.ok = xs.all It.ok := by
  induction xs with
  | nil => rfl
  | cons x l ih => rw [List.map_cons, List.map_cons, List.all_cons, List.all_cons, ih]; rfl
theorem dt_ok (k n : Int) (s : ByteArray) (xs : List It) : Dt.ok (k, n, s, xs.map itC) = dOk k n s xs := by
  unfold Dt.ok dOk
  by_cases hk : k = 3
  · simp only [if_pos hk]
    unfold listOk
    rw [all_map, List.length_map, List.length_map]
  · simp only [if_neg hk, List.length_map]
theorem dt_kb (k n : Int) (s : ByteArray) (xs : List It) : Dt.kb (k, n, s, xs.map itC) = datB k n s xs := by
  unfold Dt.kb datB
  by_cases hk : k = 3
  · simp only [if_pos hk, List.length_map, itemsB_map]
  · simp only [if_neg hk]
theorem sameIts_map : ∀ {l m : List Ic}, SameIts (l.map icIt) (m.map icIt) → (∀ c, c ∈ l → c.2.2.2 = 0) → (∀ c, c ∈ m → c.2.2.2 = 0) → l = m
  | [], [], _, _, _ => rfl
  | [], _ :: _, h, _, _ => h.elim
  | _ :: _, [], h, _, _ => h.elim
  | (a, b, c, d) :: l, (a', b', c', d') :: m, ⟨⟨e1, e2, e3⟩, h⟩, h1, h2 => by
    have e1' : a = a' := e1
    have e2' : b = b' := e2
    have e3' : c = c' := e3
    have e4 : d = 0 := h1 _ (List.mem_cons_self ..)
    have e5 : d' = 0 := h2 _ (List.mem_cons_self ..)
    subst e1' e2' e3' e4 e5
    rw [sameIts_map h (fun c hc => h1 c (List.mem_cons_of_mem _ hc)) (fun c hc => h2 c (List.mem_cons_of_mem _ hc))]
/-- A datum's bytes tell the datum. -/
theorem kb_inj {d e : Dt} (hd : d.ok = true) (he : e.ok = true) (nd : d.nums) (ne : e.nums) (h : d.kb = e.kb) : d = e := by
  obtain ⟨k, n, s, l⟩ := d
  obtain ⟨k', n', s', m⟩ := e
  have first : ∀ (k n : Int) (s : ByteArray) (l : List Ic), Dt.ok (k, n, s, l) = true → k ≠ 3 → l = [] ∧ itemOk k n s 0 = true := fun k n s l h hk => by
    have h1 : itemOk k n s (l.map icIt).length = true := by simpa [Dt.ok, dOk, hk] using h
    have h2 := itemOk_true h1
    refine ⟨?_, itemOk_of ⟨by omega, h2.2⟩⟩
    cases l with
    | nil => rfl
    | cons x xs => exact absurd h2.1 (by simp)
  have hit : ∀ (k n : Int) (s : ByteArray), itemOk k n s 0 = true → ∃ b r, itemB k n s = b :: r ∧ b ≠ 3 := fun k n s h => by
    unfold itemB
    split
    · exact ⟨1, _, rfl, by decide⟩
    · exact ⟨2, _, rfl, by decide⟩
  have hlist : ∀ (n : Int) (s : ByteArray) (l : List Ic), Dt.ok (3, n, s, l) = true → n = 0 ∧ s = ⟨#[]⟩ ∧ l.length ≤ 8 ∧ ∀ c, c ∈ l → (icIt c).ok = true := fun n s l h => by
    have h1 : listOk n s (l.map icIt) = true := by simpa [Dt.ok, dOk] using h
    simp only [listOk, Bool.and_eq_true, decide_eq_true_eq, List.all_eq_true] at h1
    refine ⟨h1.1.1, ?_, by have := h1.1.2.2; simp at this; omega, fun c hc => h1.2 _ (List.mem_map.2 ⟨c, hc, rfl⟩)⟩
    have h2 := h1.1.2.1
    rw [ByteArray.toList_eq] at h2
    apply ByteArray.ext
    apply Array.toList_inj.1
    rw [List.isEmpty_iff.1 h2]
  by_cases hk : k = 3
  · subst hk
    obtain ⟨rfl, rfl, hl, hall⟩ := hlist n s l hd
    by_cases hk' : k' = 3
    · subst hk'
      obtain ⟨rfl, rfl, hl', hall'⟩ := hlist n' s' m he
      simp only [Dt.kb, datB, if_true, List.length_map, List.cons.injEq, true_and] at h
      obtain ⟨h1, h2⟩ := h
      have hlen : l.length = m.length := by
        have e1 := byt_nat (l.length : Int)
        have e2 := byt_nat (m.length : Int)
        rw [h1] at e1
        omega
      have hs := itemsB_one (l.map icIt) (m.map icIt) [] [] (by simp [hlen]) (fun x hx => by
        obtain ⟨c, hc, rfl⟩ := List.mem_map.1 hx
        exact ⟨hall c hc, nd.2 c hc⟩) (fun x hx => by
        obtain ⟨c, hc, rfl⟩ := List.mem_map.1 hx
        exact ⟨hall' c hc, ne.2 c hc⟩) (by rw [List.append_nil, List.append_nil]; exact h2)
      have zero : ∀ c, (icIt c).ok = true → c.2.2.2 = 0 := fun c hc => by
        have := (itemOk_true hc).1
        have e : (icIt c).ll = c.2.2.2 := rfl
        rw [e] at this; omega
      rw [sameIts_map hs (fun c hc => zero c (hall c hc)) (fun c hc => zero c (hall' c hc))]
    · obtain ⟨rfl, hi⟩ := first k' n' s' m he hk'
      obtain ⟨b, r, e1, e2⟩ := hit k' n' s' hi
      simp only [Dt.kb, datB, if_true, if_neg hk', e1] at h
      injection h with h _
      exact absurd h.symm e2
  · obtain ⟨rfl, hi⟩ := first k n s l hd hk
    by_cases hk' : k' = 3
    · subst hk'
      obtain ⟨b, r, e1, e2⟩ := hit k n s hi
      simp only [Dt.kb, datB, if_true, if_neg hk, e1] at h
      injection h with h _
      exact absurd h e2
    · obtain ⟨rfl, hi'⟩ := first k' n' s' m he hk'
      simp only [Dt.kb, datB, if_neg hk, if_neg hk'] at h
      obtain ⟨rfl, rfl, rfl, _⟩ := itemB_one (r := []) (r' := []) hi hi' nd.1 ne.1 (by rw [List.append_nil, List.append_nil]; exact h)
      rfl

/-! ### Lists of entries -/
instance decBytes : DecidableEq ByteArray := fun a b => decidable_of_iff (a.data = b.data) ⟨fun h => ByteArray.ext h, fun h => by rw [h]⟩
instance decIc : DecidableEq Ic := inferInstanceAs (DecidableEq (Int × Int × ByteArray × Nat))
instance decDt : DecidableEq Dt := inferInstanceAs (DecidableEq (Int × Int × ByteArray × List Ic))
instance decEt : DecidableEq Et := inferInstanceAs (DecidableEq (Dt × Int))
instance decMemE (e : Et) (l : List Et) : Decidable (e ∈ l) := decidable_of_iff (∃ x, x ∈ l ∧ x = e) ⟨fun ⟨_, h, e⟩ => e ▸ h, fun h => ⟨e, h, rfl⟩⟩
def aheadE (a b : Et) : Bool := Op.bytesLess a.1.kb b.1.kb || a.1.kb == b.1.kb && decide (a.2 < b.2)
def withE (l : List Et) (e : Et) : List Et := l.takeWhile (fun x => !aheadE e x) ++ e :: l.dropWhile (fun x => !aheadE e x)
def withoutE (l : List Et) (e : Et) : List Et := l.filter fun x => decide (x ≠ e)
def findE (l : List Et) (d : Dt) : List Int := (l.filter fun x => decide (x.1 = d)).map (·.2)
def mayE (e : Et) : Bool := decide (0 ≤ e.2 ∧ e.2 < 16777216) && e.1.ok
def refusedE (kinds : List Int) (e : Et) : Int := if mayE e = true then (if e.1.1 ∈ kinds then 0 else 10) else 1
end Go.Proofs.Ytnnmigglcpkomaa.Dm
