/- The order of data's bytes: two items' bytes part, or the items are the same; a datum's bytes are those of one datum alone. No program's function is met here. -/
import Derived.Test.YtnnmigglcpkomaaDA
set_option maxRecDepth 100000
namespace Go.Proofs.Ytnnmigglcpkomaa.Dm
open Go Go.RowKit

def ordR (k n : Int) (s : ByteArray) (k' n' : Int) (s' : ByteArray) : Int :=
  if k ≠ k' then (if k < k' then -1 else 1) else if n < n' ∨ n = n' ∧ Op.bytesLess s.toList s'.toList = true then -1 else if n = n' ∧ (s.toList == s'.toList) = true then 0 else 1

/-- Two lists of bytes part at some place, the first one's byte the lesser. -/
def Parts (a b : List UInt8) : Prop := ∃ (p : List UInt8) (x y : UInt8) (a' b' : List UInt8), a = p ++ x :: a' ∧ b = p ++ y :: b' ∧ x < y

theorem Parts.cons {a b : List UInt8} (c : UInt8) (h : Parts a b) : Parts (c :: a) (c :: b) := by
  obtain ⟨p, x, y, a', b', rfl, rfl, hxy⟩ := h
  exact ⟨c :: p, x, y, a', b', rfl, rfl, hxy⟩

theorem Parts.app {a b : List UInt8} (c : List UInt8) (h : Parts a b) : Parts (c ++ a) (c ++ b) := by
  obtain ⟨p, x, y, a', b', rfl, rfl, hxy⟩ := h
  exact ⟨c ++ p, x, y, a', b', by simp, by simp, hxy⟩

theorem Parts.head {x y : UInt8} (a b : List UInt8) (h : x < y) : Parts (x :: a) (y :: b) := ⟨[], x, y, a, b, rfl, rfl, h⟩

theorem Parts.tail {a b : List UInt8} (c d : List UInt8) (h : Parts a b) : Parts (a ++ c) (b ++ d) := by
  obtain ⟨p, x, y, a', b', rfl, rfl, hxy⟩ := h
  exact ⟨p, x, y, a' ++ c, b' ++ d, by simp, by simp, hxy⟩

theorem bytesLess_self (a : List UInt8) : Op.bytesLess a a = false := by
  induction a with
  | nil => rfl
  | cons x a ih => simp [Op.bytesLess, ih]

theorem Parts.less {a b : List UInt8} (h : Parts a b) : Op.bytesLess a b = true := by
  obtain ⟨p, x, y, a', b', rfl, rfl, hxy⟩ := h
  induction p with
  | nil => simp [Op.bytesLess, hxy]
  | cons c p ih => simp [Op.bytesLess, ih]

theorem Parts.not_less {a b : List UInt8} (h : Parts a b) : Op.bytesLess b a = false := by
  obtain ⟨p, x, y, a', b', rfl, rfl, hxy⟩ := h
  induction p with
  | nil =>
    have h1 : ¬ y < x := by rw [UInt8.lt_iff_toNat_lt] at hxy ⊢; omega
    have h2 : ¬ y = x := by intro e; subst e; rw [UInt8.lt_iff_toNat_lt] at hxy; omega
    simp [Op.bytesLess, h1, h2]
  | cons c p ih => simp [Op.bytesLess, ih]

theorem Parts.ne {a b : List UInt8} (h : Parts a b) : a ≠ b := by
  intro e
  have h1 := h.less
  rw [e, bytesLess_self] at h1
  exact Bool.noConfusion h1

/-- Neither begins with the other. -/
theorem Parts.apart {a b : List UInt8} (h : Parts a b) : b.take a.length ≠ a ∧ a.take b.length ≠ b := by
  obtain ⟨p, x, y, a', b', rfl, rfl, hxy⟩ := h
  have hne : x ≠ y := by intro e; subst e; rw [UInt8.lt_iff_toNat_lt] at hxy; omega
  constructor
  · intro e
    have := congrArg (·[p.length]?) e
    simp at this
    exact hne this.symm
  · intro e
    have := congrArg (·[p.length]?) e
    simp at this
    exact hne this

/-- The bytes of a number, the highest first. -/
def beL : Nat → Nat → List UInt8
  | 0, _ => []
  | k + 1, u => byt ((u / 256 ^ k : Nat) : Int) :: beL k u

theorem byt_nat' (x : Nat) : (byt (x : Int)).toNat = x % 256 := by
  have := byt_nat (x : Int)
  omega

theorem beL_parts : ∀ (k u v : Nat), u % 256 ^ k < v % 256 ^ k → Parts (beL k u) (beL k v)
  | 0, u, v, h => by simp at h; omega
  | k + 1, u, v, h => by
    rw [Nat.pow_succ, Nat.mod_mul, Nat.mod_mul] at h
    have hm : 0 < 256 ^ k := Nat.pow_pos (by omega)
    have hu := Nat.mod_lt u hm
    have hv := Nat.mod_lt v hm
    unfold beL
    rcases Nat.lt_trichotomy (u / 256 ^ k % 256) (v / 256 ^ k % 256) with hlt | heq | hgt
    · exact Parts.head _ _ (by rw [UInt8.lt_iff_toNat_lt, byt_nat', byt_nat']; exact hlt)
    · have e : byt ((u / 256 ^ k : Nat) : Int) = byt ((v / 256 ^ k : Nat) : Int) := UInt8.toNat_inj.1 (by rw [byt_nat', byt_nat', heq])
      rw [e]
      rw [heq] at h
      exact (beL_parts k u v (by omega)).cons _
    · exfalso
      have h1 : 256 ^ k * (v / 256 ^ k % 256) + 256 ^ k ≤ 256 ^ k * (u / 256 ^ k % 256) := by
        have := Nat.mul_le_mul_left (256 ^ k) (Nat.succ_le_of_lt hgt)
        rw [Nat.mul_succ] at this
        exact this
      omega

theorem intB_be (n : Int) (u : Nat) (h : uOf n = (u : Int)) : intB n = beL 8 u := by
  unfold intB intTo
  rw [h]
  have e : ∀ i : Nat, i < 8 → byt ((u : Int) / 2 ^ (8 * (7 - (i : Int))).toNat) = byt ((u / 256 ^ (7 - i) : Nat) : Int) := by
    intro i hi
    congr 1
    have h1 : (8 * (7 - (i : Int))).toNat = 8 * (7 - i) := by omega
    have e2 : ((256 ^ (7 - i) : Nat) : Int) = 2 ^ (8 * (7 - i)) := by
      rw [show (256 : Nat) = 2 ^ 8 from rfl, ← Nat.pow_mul]
      simp
    rw [h1, ← e2]
    exact (Int.natCast_ediv u (256 ^ (7 - i))).symm
  simp only [List.range, List.range.loop, List.map_cons, List.map_nil]
  rw [e 0 (by omega), e 1 (by omega), e 2 (by omega), e 3 (by omega), e 4 (by omega), e 5 (by omega), e 6 (by omega), e 7 (by omega)]
  rfl

theorem intB_parts {n m : Int} (hn : I64 n) (hm : I64 m) (h : n < m) : Parts (intB n) (intB m) := by
  have h1 := uOf_eq n hn.1 hn.2
  have h2 := uOf_eq m hm.1 hm.2
  have a := hn.1; have b := hn.2; have c := hm.1; have d := hm.2
  rw [intB_be n (n + 9223372036854775808).toNat (by omega), intB_be m (m + 9223372036854775808).toNat (by omega)]
  apply beL_parts
  have e : (256 : Nat) ^ 8 = 18446744073709551616 := by decide
  rw [e]
  omega

theorem textB_parts : ∀ (s t : List UInt8), Op.bytesLess s t = true → Parts (textB s) (textB t)
  | _, [], h => by simp [Op.bytesLess] at h
  | [], c :: t, _ => by
    have e : textB (c :: t) = (if c = 0 then [0, 255] else [c]) ++ textB t := by simp [textB, textTo]
    rw [e]
    show Parts [0, 0] _
    split
    · exact (Parts.head _ _ (by decide)).cons 0
    · rename_i hc
      exact Parts.head _ _ (by
        rw [UInt8.lt_iff_toNat_lt]
        have : c.toNat ≠ 0 := fun h => hc (UInt8.toNat_inj.1 h)
        show 0 < c.toNat
        omega)
  | b :: s, c :: t, h => by
    have e : ∀ (x : UInt8) (r : List UInt8), textB (x :: r) = (if x = 0 then [0, 255] else [x]) ++ textB r := fun x r => by simp [textB, textTo]
    rw [e, e]
    simp only [Op.bytesLess, Bool.or_eq_true, decide_eq_true_eq, Bool.and_eq_true, beq_iff_eq] at h
    rcases h with h | ⟨rfl, h⟩
    · have hc : ¬ c = 0 := by
        intro hc; subst hc
        rw [UInt8.lt_iff_toNat_lt] at h
        have : (0 : UInt8).toNat = 0 := rfl
        omega
      rw [if_neg hc]
      split
      · rename_i hb
        subst hb
        exact Parts.head _ _ h
      · exact Parts.head _ _ h
    · exact (textB_parts s t h).app _

theorem bytesLess_tri : ∀ (s t : List UInt8), Op.bytesLess s t = false → s ≠ t → Op.bytesLess t s = true
  | [], [], _, h => absurd rfl h
  | [], _ :: _, h, _ => by simp [Op.bytesLess] at h
  | _ :: _, [], _, _ => by simp [Op.bytesLess]
  | b :: s, c :: t, h, hne => by
    simp only [Op.bytesLess, Bool.or_eq_false_iff, decide_eq_false_iff_not, Bool.and_eq_false_iff] at h
    simp only [Op.bytesLess, Bool.or_eq_true, decide_eq_true_eq, Bool.and_eq_true, beq_iff_eq]
    by_cases hbc : b = c
    · subst hbc
      right
      refine ⟨rfl, bytesLess_tri s t ?_ (fun e => hne (by rw [e]))⟩
      rcases h.2 with h2 | h2
      · simp at h2
      · exact h2
    · left
      have h1 := h.1
      rw [UInt8.lt_iff_toNat_lt] at h1 ⊢
      have : b.toNat ≠ c.toNat := fun e => hbc (UInt8.toNat_inj.1 e)
      omega

/-- The bytes of two items stand as the items do. -/
theorem itemB_order {k n : Int} {s : ByteArray} {k' n' : Int} {s' : ByteArray} (h1 : itemOk k n s 0 = true) (h2 : itemOk k' n' s' 0 = true) (hn : I64 n) (hn' : I64 n') :
    (ordR k n s k' n' s' = -1 ∧ Parts (itemB k n s) (itemB k' n' s')) ∨ (ordR k n s k' n' s' = 1 ∧ Parts (itemB k' n' s') (itemB k n s)) ∨ (ordR k n s k' n' s' = 0 ∧ k = k' ∧ n = n' ∧ s = s') := by
  have a1 := (itemOk_true h1).2
  have a2 := (itemOk_true h2).2
  have hE : ∀ {x : ByteArray}, x.toList.isEmpty = true → x = ⟨#[]⟩ := fun {x} hx => by
    rw [ByteArray.toList_eq] at hx
    apply ByteArray.ext
    apply Array.toList_inj.1
    rw [List.isEmpty_iff.1 hx]
  rcases a1 with ⟨rfl, e1⟩ | ⟨rfl, rfl, _⟩
  · rcases a2 with ⟨rfl, e2⟩ | ⟨rfl, rfl, _⟩
    · obtain rfl := hE e1
      obtain rfl := hE e2
      rcases Int.lt_trichotomy n n' with h | h | h
      · left
        refine ⟨by simp [ordR, h], ?_⟩
        simp only [itemB, if_pos]
        exact (intB_parts hn hn' h).cons 1
      · subst h
        right; right
        refine ⟨?_, rfl, rfl, rfl⟩
        simp [ordR, bytesLess_self]
      · right; left
        have hx : ¬ n < n' := by omega
        have hy : ¬ n = n' := by omega
        refine ⟨by simp [ordR, hx, hy], ?_⟩
        simp only [itemB, if_pos]
        exact (intB_parts hn' hn h).cons 1
    · left
      refine ⟨by simp [ordR], ?_⟩
      simp only [itemB, if_pos]
      exact Parts.head _ _ (by decide)
  · rcases a2 with ⟨rfl, e2⟩ | ⟨rfl, rfl, _⟩
    · right; left
      refine ⟨by simp [ordR], ?_⟩
      simp only [itemB, if_pos]
      exact Parts.head _ _ (by decide)
    · have e : itemB 2 0 s = 2 :: textB s.data.toList := by simp [itemB]
      have e' : itemB 2 0 s' = 2 :: textB s'.data.toList := by simp [itemB]
      rw [e, e']
      cases hl : Op.bytesLess s.data.toList s'.data.toList
      · by_cases heq : s = s'
        · subst heq
          right; right
          refine ⟨?_, rfl, rfl, rfl⟩
          simp [ordR, bytesLess_self]
        · right; left
          have hne : s.data.toList ≠ s'.data.toList := fun h => heq (by apply ByteArray.ext; exact Array.toList_inj.1 h)
          have hr := bytesLess_tri _ _ hl hne
          refine ⟨?_, (textB_parts _ _ hr).cons 2⟩
          have hb : (s.data.toList == s'.data.toList) = false := by rw [beq_eq_false_iff_ne]; exact hne
          simp [ordR, ByteArray.toList_eq, hl]
          exact fun h => heq (ByteArray.ext h)
      · left
        refine ⟨by simp [ordR, ByteArray.toList_eq, hl], (textB_parts _ _ hl).cons 2⟩

/-- Bytes that go on behind an item tell the item. -/
theorem itemB_one {k n : Int} {s : ByteArray} {k' n' : Int} {s' : ByteArray} {r r' : List UInt8} (h1 : itemOk k n s 0 = true) (h2 : itemOk k' n' s' 0 = true) (hn : I64 n) (hn' : I64 n') (h : itemB k n s ++ r = itemB k' n' s' ++ r') : k = k' ∧ n = n' ∧ s = s' ∧ r = r' := by
  rcases itemB_order h1 h2 hn hn' with ⟨_, hp⟩ | ⟨_, hp⟩ | ⟨_, rfl, rfl, rfl⟩
  · exact absurd h (hp.tail r r').ne
  · exact absurd h.symm (hp.tail r' r).ne
  · exact ⟨rfl, rfl, rfl, List.append_cancel_left h⟩
/-- The same items, wherever they lie. -/
def SameIt (x y : It) : Prop := x.k = y.k ∧ x.n = y.n ∧ x.s = y.s
def SameIts : List It → List It → Prop
  | [], [] => True
  | x :: l, y :: m => SameIt x y ∧ SameIts l m
  | _, _ => False
theorem itemsB_one : ∀ (xs ys : List It) (r r' : List UInt8), xs.length = ys.length → (∀ x, x ∈ xs → x.ok = true ∧ I64 x.n) → (∀ x, x ∈ ys → x.ok = true ∧ I64 x.n) → itemsB xs ++ r = itemsB ys ++ r' → SameIts xs ys
  | [], [], _, _, _, _, _, _ => trivial
  | [], _ :: _, _, _, hl, _, _, _ => by simp at hl
  | _ :: _, [], _, _, hl, _, _, _ => by simp at hl
  | x :: xs, y :: ys, r, r', hl, h1, h2, h => by
    have e : ∀ (z : It) (l : List It) (q : List UInt8), itemsB (z :: l) ++ q = itemB z.k z.n z.s ++ (itemsB l ++ q) := fun z l q => by simp [itemsB]
    rw [e, e] at h
    obtain ⟨hx, hxn⟩ := h1 x (List.mem_cons_self ..)
    obtain ⟨hy, hyn⟩ := h2 y (List.mem_cons_self ..)
    have ox := itemOk_true hx
    have oy := itemOk_true hy
    obtain ⟨e1, e2, e3, e4⟩ := itemB_one (itemOk_of ⟨by omega, ox.2⟩) (itemOk_of ⟨by omega, oy.2⟩) hxn hyn h
    exact ⟨⟨e1, e2, e3⟩, itemsB_one xs ys r r' (by simpa using hl) (fun z hz => h1 z (List.mem_cons_of_mem _ hz)) (fun z hz => h2 z (List.mem_cons_of_mem _ hz)) e4⟩
theorem sameIts_bytes : ∀ {xs ys : List It}, SameIts xs ys → itemsB xs = itemsB ys ∧ xs.length = ys.length
  | [], [], _ => ⟨rfl, rfl⟩
  | [], _ :: _, h => h.elim
  | _ :: _, [], h => h.elim
  | x :: xs, y :: ys, ⟨⟨e1, e2, e3⟩, h⟩ => by
    obtain ⟨h1, h2⟩ := sameIts_bytes h
    refine ⟨?_, by simp [h2]⟩
    have e : ∀ (z : It) (l : List It), itemsB (z :: l) = itemB z.k z.n z.s ++ itemsB l := fun z l => by simp [itemsB]
    rw [e, e, h1, e1, e2, e3]
end Go.Proofs.Ytnnmigglcpkomaa.Dm
