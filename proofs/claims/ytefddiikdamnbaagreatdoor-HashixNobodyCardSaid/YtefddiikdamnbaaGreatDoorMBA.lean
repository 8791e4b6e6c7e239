/- Texts of the same proof, one behind the other: DA, DD, DE, DB, DF. -/
import Derived.Test.YtefddiikdamnbaaGreatDoorProg
import Derived.WalkKit
import Derived.WalkLawsBesides
import Derived.WalkSpells
import Derived.Outline
import Derived.Below
import Derived.Lib.Hide
import Derived.Laws.Bits64
import Derived.Laws.BitsAllLaws
import Derived.Deep.RegionHeld3
import Derived.RegionTactic
import Derived.ChangeAlike
import Derived.BigRegion
/- Data in plain words: which may be, where they lie, their bytes. No program's function is met here. -/
set_option maxRecDepth 100000
namespace Go.Proofs.YtefddiikdamnbaaGreatDoor.Dm
open Go.RowKit

def itemOk (k n : Int) (s : ByteArray) (ll : Nat) : Bool :=
  decide (¬ 0 < ll ∧ (k = 1 ∧ s.toList.isEmpty = true ∨ k = 2 ∧ n = 0 ∧ (s.size : Int) ≤ 32))

theorem itemOk_true {k n : Int} {s : ByteArray} {ll : Nat} (h : itemOk k n s ll = true) : ¬ 0 < ll ∧ (k = 1 ∧ s.toList.isEmpty = true ∨ k = 2 ∧ n = 0 ∧ (s.size : Int) ≤ 32) := of_decide_eq_true h

theorem itemOk_false {k n : Int} {s : ByteArray} {ll : Nat} (h : itemOk k n s ll = false) : ¬ (¬ 0 < ll ∧ (k = 1 ∧ s.toList.isEmpty = true ∨ k = 2 ∧ n = 0 ∧ (s.size : Int) ≤ 32)) := of_decide_eq_false h

theorem itemOk_of {k n : Int} {s : ByteArray} {ll : Nat} (h : ¬ 0 < ll ∧ (k = 1 ∧ s.toList.isEmpty = true ∨ k = 2 ∧ n = 0 ∧ (s.size : Int) ≤ 32)) : itemOk k n s ll = true := decide_eq_true h

/-- A datum without its items: its kind, number, text, and where its list lies. -/
structure It where
  k : Int
  n : Int
  s : ByteArray
  a : Option Addr
  ll : Nat
  lc : Nat

def It.ok (x : It) : Bool := itemOk x.k x.n x.s x.ll

/-- The cells of the items of a list that lies at block b from off on. -/
def CellsOf (w : World) (b off : Nat) (xs : List It) : Prop :=
  ∀ j (h : j < xs.length), w.cell? ⟨b, off + j * 4, none⟩ = some (.int .i64 (xs[j]'h).k) ∧ w.cell? ⟨b, off + j * 4 + 1, none⟩ = some (.int .i64 (xs[j]'h).n) ∧
    w.cell? ⟨b, off + j * 4 + 2, none⟩ = some (.string (xs[j]'h).s) ∧ w.cell? ⟨b, off + j * 4 + 3, none⟩ = some (.slice (xs[j]'h).a (xs[j]'h).ll (xs[j]'h).lc)

/-- The items xs lie where the slice's pointer points. -/
def Sl (w : World) (a : Option Addr) (xs : List It) : Prop :=
  xs = [] ∨ ∃ b off, a = some ⟨b, off, none⟩ ∧ b < w.heap.size ∧ CellsOf w b off xs

theorem Sl.below {w w' : World} {a : Option Addr} {xs : List It} {B : Nat} (h : Sl w a xs) (hb : Below B w w') (hB : w.heap.size ≤ B) : Sl w' a xs := by
  rcases h with h | ⟨b, off, ha, hlt, hc⟩
  · exact .inl h
  · refine .inr ⟨b, off, ha, ?_, fun j hj => ?_⟩
    · have := hb.size; omega
    · obtain ⟨h0, h1, h2, h3⟩ := hc j hj
      exact ⟨(hb.cell (p := ⟨b, _, none⟩) (by show b < B; omega)).trans h0, (hb.cell (p := ⟨b, _, none⟩) (by show b < B; omega)).trans h1, (hb.cell (p := ⟨b, _, none⟩) (by show b < B; omega)).trans h2, (hb.cell (p := ⟨b, _, none⟩) (by show b < B; omega)).trans h3⟩

/-- The items lie in a block below B. -/
def SlB (B : Nat) (w : World) (a : Option Addr) (xs : List It) : Prop :=
  xs = [] ∨ ∃ b off, a = some ⟨b, off, none⟩ ∧ b < B ∧ CellsOf w b off xs

theorem SlB.below {w w' : World} {a : Option Addr} {xs : List It} {B : Nat} (h : SlB B w a xs) (hb : Below B w w') : SlB B w' a xs := by
  rcases h with h | ⟨b, off, ha, hlt, hc⟩
  · exact .inl h
  · refine .inr ⟨b, off, ha, hlt, fun j hj => ?_⟩
    obtain ⟨h0, h1, h2, h3⟩ := hc j hj
    exact ⟨(hb.cell (p := ⟨b, _, none⟩) hlt).trans h0, (hb.cell (p := ⟨b, _, none⟩) hlt).trans h1, (hb.cell (p := ⟨b, _, none⟩) hlt).trans h2, (hb.cell (p := ⟨b, _, none⟩) hlt).trans h3⟩

theorem Sl.slB {w : World} {a : Option Addr} {xs : List It} (h : Sl w a xs) : SlB w.heap.size w a xs := h

theorem SlB.at {B : Nat} {w : World} {a : Option Addr} {xs : List It} (h : SlB B w a xs) {j : Nat} (hj : j < xs.length) :
    ∃ b off, a = some ⟨b, off, none⟩ ∧ b < B ∧ CellsOf w b off xs := by
  rcases h with rfl | h
  · simp at hj
  · exact h

theorem Sl.at {w : World} {a : Option Addr} {xs : List It} (h : Sl w a xs) {j : Nat} (hj : j < xs.length) :
    ∃ b off, a = some ⟨b, off, none⟩ ∧ b < w.heap.size ∧ CellsOf w b off xs := by
  rcases h with rfl | h
  · simp at hj
  · exact h

def listOk (n : Int) (s : ByteArray) (xs : List It) : Bool :=
  decide (n = 0 ∧ s.toList.isEmpty = true ∧ (xs.length : Int) ≤ 8) && xs.all It.ok

def dOk (k n : Int) (s : ByteArray) (xs : List It) : Bool := if k = 3 then listOk n s xs else itemOk k n s xs.length

/-- A datum's own box, behind whatever was done above it. -/
theorem box_cells {w wr : World} {v0 v1 v2 v3 : Value} {T : TypeId} (hb : Below (w.heap.size + 1) (w.alloc (.cells #[v0, v1, v2, v3] T)) wr) :
    wr.cell? ⟨w.heap.size, 0, none⟩ = some v0 ∧ wr.cell? ⟨w.heap.size, 1, none⟩ = some v1 ∧ wr.cell? ⟨w.heap.size, 2, none⟩ = some v2 ∧ wr.cell? ⟨w.heap.size, 3, none⟩ = some v3 := by
  refine ⟨(hb.cell (p := ⟨w.heap.size, 0, none⟩) (by simp)).trans ?_, (hb.cell (p := ⟨w.heap.size, 1, none⟩) (by simp)).trans ?_, (hb.cell (p := ⟨w.heap.size, 2, none⟩) (by simp)).trans ?_, (hb.cell (p := ⟨w.heap.size, 3, none⟩) (by simp)).trans ?_⟩ <;>
    simp

theorem box_frozen {w wr : World} {v0 v1 v2 v3 : Value} {T : TypeId} (hb : Below (w.heap.size + 1) (w.alloc (.cells #[v0, v1, v2, v3] T)) wr) :
    wr.frozen? ⟨w.heap.size, 0, none⟩ = false ∧ wr.frozen? ⟨w.heap.size, 1, none⟩ = false ∧ wr.frozen? ⟨w.heap.size, 2, none⟩ = false ∧ wr.frozen? ⟨w.heap.size, 3, none⟩ = false := by
  refine ⟨(hb.frozen (p := ⟨w.heap.size, 0, none⟩) (by simp)).trans ?_, (hb.frozen (p := ⟨w.heap.size, 1, none⟩) (by simp)).trans ?_, (hb.frozen (p := ⟨w.heap.size, 2, none⟩) (by simp)).trans ?_, (hb.frozen (p := ⟨w.heap.size, 3, none⟩) (by simp)).trans ?_⟩ <;>
    simp

/-- What is below a world that was allocated in. -/
theorem below_al {w w' : World} (o : Obj) (h : Below (w.alloc o).heap.size (w.alloc o) w') : Below w.heap.size w w' :=
  ((Below.refl _ _).alloc (Nat.le_refl _) o).trans (h.mono (by simp))

theorem below_al2 {w w' : World} (o o2 : Obj) (h : Below ((w.alloc o).alloc o2).heap.size ((w.alloc o).alloc o2) w') : Below w.heap.size w w' :=
  below_al o (below_al o2 h)

/-- Two data's boxes. -/
theorem box_cells2 {w wr : World} {v0 v1 v2 v3 u0 u1 u2 u3 : Value} {T U : TypeId} (hb : Below (w.heap.size + 1 + 1) ((w.alloc (.cells #[v0, v1, v2, v3] T)).alloc (.cells #[u0, u1, u2, u3] U)) wr) :
    (wr.cell? ⟨w.heap.size, 0, none⟩ = some v0 ∧ wr.cell? ⟨w.heap.size, 1, none⟩ = some v1 ∧ wr.cell? ⟨w.heap.size, 2, none⟩ = some v2 ∧ wr.cell? ⟨w.heap.size, 3, none⟩ = some v3) ∧
    (wr.cell? ⟨w.heap.size + 1, 0, none⟩ = some u0 ∧ wr.cell? ⟨w.heap.size + 1, 1, none⟩ = some u1 ∧ wr.cell? ⟨w.heap.size + 1, 2, none⟩ = some u2 ∧ wr.cell? ⟨w.heap.size + 1, 3, none⟩ = some u3) := by
  refine ⟨box_cells (((Below.refl _ _).alloc (by simp) _).trans (hb.mono (by omega))), ?_⟩
  have := box_cells (w := w.alloc (.cells #[v0, v1, v2, v3] T)) (wr := wr) (v0 := u0) (v1 := u1) (v2 := u2) (v3 := u3) (T := U) (by simpa using hb)
  simpa using this

theorem below_then {B : Nat} {w wr w1 : World} (hb : Below B w wr) (hB : B ≤ w.heap.size) (h1 : Below wr.heap.size wr w1) : Below B w w1 :=
  hb.trans (h1.mono (by have := hb.size; omega))

theorem below_then_al {B : Nat} {w wr w1 : World} (hb : Below B w wr) (hB : B ≤ w.heap.size) (o : Obj) (h1 : Below (wr.alloc o).heap.size (wr.alloc o) w1) : Below B w w1 :=
  below_then hb hB (below_al o h1)

/-- The byte of a number: what it leaves by 256. -/
def byt (x : Int) : UInt8 := UInt8.ofNat (x % 256).toNat

theorem byt_nat (x : Int) : ((byt x).toNat : Int) = x % 256 := by
  unfold byt
  have h : (x % 256).toNat < 256 := by omega
  rw [UInt8.toNat_ofNat', Nat.mod_eq_of_lt h]
  omega

def uOf (n : Int) : Int := bits BinOp.xor IntKind.u64 (IntKind.u64.wrap n) 9223372036854775808

/-- An int's sign turned. -/
theorem uOf_eq (n : Int) (h0 : -9223372036854775808 ≤ n) (h1 : n ≤ 9223372036854775807) : uOf n = n + 9223372036854775808 := by
  unfold uOf
  rw [IntKind.wrap_u64]
  obtain ⟨m, hm⟩ : ∃ m : Nat, n % 18446744073709551616 = (m : Int) := ⟨(n % 18446744073709551616).toNat, by omega⟩
  have hmlt : m < 18446744073709551616 := by omega
  rw [hm]
  have := bits_xor_u64_nat m 9223372036854775808 hmlt (by decide)
  rw [show ((9223372036854775808 : Int)) = ((9223372036854775808 : Nat) : Int) from rfl, this]
  have hx : m ^^^ 9223372036854775808 = if m < 9223372036854775808 then m + 9223372036854775808 else m - 9223372036854775808 := by
    have e1 : (m ^^^ 9223372036854775808) / 2 ^ 63 = m / 2 ^ 63 ^^^ 9223372036854775808 / 2 ^ 63 := Nat.xor_div_two_pow
    have e2 : (m ^^^ 9223372036854775808) % 2 ^ 63 = m % 2 ^ 63 ^^^ 9223372036854775808 % 2 ^ 63 := Nat.xor_mod_two_pow
    have e3 : 9223372036854775808 / 2 ^ 63 = 1 := by decide
    have e4 : 9223372036854775808 % 2 ^ 63 = 0 := by decide
    rw [e3] at e1
    rw [e4, Nat.xor_zero] at e2
    split
    · rename_i hl
      have : m / 2 ^ 63 = 0 := by omega
      rw [this, Nat.zero_xor] at e1
      omega
    · rename_i hl
      have : m / 2 ^ 63 = 1 := by omega
      rw [this, Nat.xor_self] at e1
      omega
  rw [hx]
  split <;> omega

def intTo (n : Int) (j : Nat) : List UInt8 := (List.range j).map fun (i : Nat) => byt (uOf n / 2 ^ (8 * (7 - (i : Int))).toNat)

def intB (n : Int) : List UInt8 := intTo n 8

theorem intTo_succ (n : Int) (j : Nat) : intTo n (j + 1) = intTo n j ++ [byt (uOf n / 2 ^ (8 * (7 - (j : Int))).toNat)] := by
  simp [intTo, List.range_succ]

theorem intTo_length (n : Int) (j : Nat) : (intTo n j).length = j := by simp [intTo]

def textTo (s : List UInt8) : List UInt8 := s.flatMap fun c => if c = 0 then [0, 255] else [c]

def textB (s : List UInt8) : List UInt8 := textTo s ++ [0, 0]

theorem textTo_snoc (s : List UInt8) (c : UInt8) : textTo (s ++ [c]) = textTo s ++ if c = 0 then [0, 255] else [c] := by
  simp [textTo]

theorem textTo_length (s : List UInt8) : (textTo s).length ≤ 2 * s.length := by
  induction s with
  | nil => simp [textTo]
  | cons c s ih =>
    have e : textTo (c :: s) = (if c = 0 then [0, 255] else [c]) ++ textTo s := by simp [textTo]
    rw [e, List.length_append, List.length_cons]
    split <;> simp <;> omega

theorem take_snoc (s : ByteArray) (k : Nat) (h : k < s.size) : s.data.toList.take (k + 1) = s.data.toList.take k ++ [s[k]] := by
  rw [List.take_succ_eq_append_getElem (by simpa using h)]; rfl

/-- The bytes of an item. -/
def itemB (k n : Int) (s : ByteArray) : List UInt8 := if k = 1 then 1 :: intB n else 2 :: textB s.data.toList

def itemsB (xs : List It) : List UInt8 := xs.flatMap fun x => itemB x.k x.n x.s

def datB (k n : Int) (s : ByteArray) (xs : List It) : List UInt8 := if k = 3 then 3 :: byt xs.length :: itemsB xs else itemB k n s

theorem itemsB_snoc (xs : List It) (x : It) : itemsB (xs ++ [x]) = itemsB xs ++ itemB x.k x.n x.s := by simp [itemsB]

theorem itemB_length (k n : Int) (s : ByteArray) : (itemB k n s).length ≤ 2 * s.size + 9 := by
  have h : s.data.toList.length = s.size := rfl
  unfold itemB
  split
  · simp [intB, intTo_length]
  · have := textTo_length s.data.toList
    simp [textB]; omega

def I64 (n : Int) : Prop := -9223372036854775808 ≤ n ∧ n ≤ 9223372036854775807

/-- Each number of the items is an int. -/
def AllI (xs : List It) : Prop := ∀ x ∈ xs, I64 x.n

theorem item_kind {x : It} (h : x.ok = true) : (x.k = 1 ∨ x.k = 2) ∧ x.s.size ≤ 32 := by
  have := itemOk_true h
  rcases this.2 with ⟨h1, h2⟩ | ⟨h1, h2, h3⟩
  · refine ⟨.inl h1, ?_⟩
    rw [ByteArray.toList_eq] at h2
    have e : x.s.data.toList = [] := List.isEmpty_iff.1 h2
    have e2 : x.s.data.toList.length = x.s.size := rfl
    rw [← e2, e]
    exact Nat.zero_le _
  · exact ⟨.inr h1, by omega⟩

theorem itemsB_length (xs : List It) (h : ∀ x ∈ xs, x.ok = true) : (itemsB xs).length ≤ 73 * xs.length := by
  induction xs with
  | nil => simp [itemsB]
  | cons x xs ih =>
    have e : itemsB (x :: xs) = itemB x.k x.n x.s ++ itemsB xs := by simp [itemsB]
    have h1 := itemB_length x.k x.n x.s
    have h2 := (item_kind (h x (by simp))).2
    have h3 := ih (fun y hy => h y (by simp [hy]))
    rw [e, List.length_append, List.length_cons]
    omega
end Go.Proofs.YtefddiikdamnbaaGreatDoor.Dm

/- The order of data's bytes: two items' bytes part, or the items are the same; a datum's bytes are those of one datum alone. No program's function is met here. -/
set_option maxRecDepth 100000
namespace Go.Proofs.YtefddiikdamnbaaGreatDoor.Dm
open Go Go.RowKit

def ordR (k n : Int) (s : ByteArray) (k' n' : Int) (s' : ByteArray) : Int :=
  if k ≠ k' then (if k < k' then -1 else 1) else if n < n' ∨ n = n' ∧ Op.bytesLess s.toList s'.toList = true then -1 else if n = n' ∧ (s.toList == s'.toList) = true then 0 else 1

/-- Two lists of bytes part at some place, the first one's byte the lesser. -/
def Parts (a b : List UInt8) : Prop := ∃ (p : List UInt8) (x y : UInt8) (a' b' : List UInt8), a = p ++ x :: a' ∧ b = p ++ y :: b' ∧ x < y

theorem Parts.cons {a b : List UInt8} (c : UInt8) (h : Parts a b) : Parts (c :: a) (c :: b) := by
  obtain ⟨p, x, y, a', b', rfl, rfl, hxy⟩ := h
  exact ⟨c :: p, x, y, a', b', rfl, rfl, hxy⟩

theorem Parts.app {a b : List UInt8} (c : List UInt8) (h : Parts a b) : Parts (c ++ a) (c ++ b) := by
  obtain ⟨p, x, y, a', b', rfl, rfl, hxy⟩ := h
  exact ⟨c ++ p, x, y, a', b', by simp, by simp, hxy⟩

theorem Parts.head {x y : UInt8} (a b : List UInt8) (h : x < y) : Parts (x :: a) (y :: b) := ⟨[], x, y, a, b, rfl, rfl, h⟩

theorem Parts.tail {a b : List UInt8} (c d : List UInt8) (h : Parts a b) : Parts (a ++ c) (b ++ d) := by
  obtain ⟨p, x, y, a', b', rfl, rfl, hxy⟩ := h
  exact ⟨p, x, y, a' ++ c, b' ++ d, by simp, by simp, hxy⟩

theorem bytesLess_self (a : List UInt8) : Op.bytesLess a a = false := by
  induction a with
  | nil => rfl
  | cons x a ih => simp [Op.bytesLess, ih]

theorem Parts.less {a b : List UInt8} (h : Parts a b) : Op.bytesLess a b = true := by
  obtain ⟨p, x, y, a', b', rfl, rfl, hxy⟩ := h
  induction p with
  | nil => simp [Op.bytesLess, hxy]
  | cons c p ih => simp [Op.bytesLess, ih]

theorem Parts.ne {a b : List UInt8} (h : Parts a b) : a ≠ b := by
  intro e
  have h1 := h.less
  rw [e, bytesLess_self] at h1
  exact Bool.noConfusion h1

/-- The bytes of a number, the highest first. -/
def beL : Nat → Nat → List UInt8
  | 0, _ => []
  | k + 1, u => byt ((u / 256 ^ k : Nat) : Int) :: beL k u

theorem byt_nat' (x : Nat) : (byt (x : Int)).toNat = x % 256 := by
  have := byt_nat (x : Int)
  omega

theorem beL_parts : ∀ (k u v : Nat), u % 256 ^ k < v % 256 ^ k → Parts (beL k u) (beL k v)
  | 0, u, v, h => by simp at h; omega
  | k + 1, u, v, h => by
    rw [Nat.pow_succ, Nat.mod_mul, Nat.mod_mul] at h
    have hm : 0 < 256 ^ k := Nat.pow_pos (by omega)
    have hu := Nat.mod_lt u hm
    have hv := Nat.mod_lt v hm
    unfold beL
    rcases Nat.lt_trichotomy (u / 256 ^ k % 256) (v / 256 ^ k % 256) with hlt | heq | hgt
    · exact Parts.head _ _ (by rw [UInt8.lt_iff_toNat_lt, byt_nat', byt_nat']; exact hlt)
    · have e : byt ((u / 256 ^ k : Nat) : Int) = byt ((v / 256 ^ k : Nat) : Int) := UInt8.toNat_inj.1 (by rw [byt_nat', byt_nat', heq])
      rw [e]
      rw [heq] at h
      exact (beL_parts k u v (by omega)).cons _
    · exfalso
      have h1 : 256 ^ k * (v / 256 ^ k % 256) + 256 ^ k ≤ 256 ^ k * (u / 256 ^ k % 256) := by
        have := Nat.mul_le_mul_left (256 ^ k) (Nat.succ_le_of_lt hgt)
        rw [Nat.mul_succ] at this
        exact this
      omega

theorem intB_be (n : Int) (u : Nat) (h : uOf n = (u : Int)) : intB n = beL 8 u := by
  unfold intB intTo
  rw [h]
  have e : ∀ i : Nat, i < 8 → byt ((u : Int) / 2 ^ (8 * (7 - (i : Int))).toNat) = byt ((u / 256 ^ (7 - i) : Nat) : Int) := by
    intro i hi
    congr 1
    have h1 : (8 * (7 - (i : Int))).toNat = 8 * (7 - i) := by omega
    have e2 : ((256 ^ (7 - i) : Nat) : Int) = 2 ^ (8 * (7 - i)) := by
      rw [show (256 : Nat) = 2 ^ 8 from rfl, ← Nat.pow_mul]
      simp
    rw [h1, ← e2]
    exact (Int.natCast_ediv u (256 ^ (7 - i))).symm
  simp only [List.range, List.range.loop, List.map_cons, List.map_nil]
  rw [e 0 (by omega), e 1 (by omega), e 2 (by omega), e 3 (by omega), e 4 (by omega), e 5 (by omega), e 6 (by omega), e 7 (by omega)]
  rfl

theorem intB_parts {n m : Int} (hn : I64 n) (hm : I64 m) (h : n < m) : Parts (intB n) (intB m) := by
  have h1 := uOf_eq n hn.1 hn.2
  have h2 := uOf_eq m hm.1 hm.2
  have a := hn.1; have b := hn.2; have c := hm.1; have d := hm.2
  rw [intB_be n (n + 9223372036854775808).toNat (by omega), intB_be m (m + 9223372036854775808).toNat (by omega)]
  apply beL_parts
  have e : (256 : Nat) ^ 8 = 18446744073709551616 := by decide
  rw [e]
  omega

theorem textB_parts : ∀ (s t : List UInt8), Op.bytesLess s t = true → Parts (textB s) (textB t)
  | _, [], h => by simp [Op.bytesLess] at h
  | [], c :: t, _ => by
    have e : textB (c :: t) = (if c = 0 then [0, 255] else [c]) ++ textB t := by simp [textB, textTo]
    rw [e]
    show Parts [0, 0] _
    split
    · exact (Parts.head _ _ (by decide)).cons 0
    · rename_i hc
      exact Parts.head _ _ (by
        rw [UInt8.lt_iff_toNat_lt]
        have : c.toNat ≠ 0 := fun h => hc (UInt8.toNat_inj.1 h)
        show 0 < c.toNat
        omega)
  | b :: s, c :: t, h => by
    have e : ∀ (x : UInt8) (r : List UInt8), textB (x :: r) = (if x = 0 then [0, 255] else [x]) ++ textB r := fun x r => by simp [textB, textTo]
    rw [e, e]
    simp only [Op.bytesLess, Bool.or_eq_true, decide_eq_true_eq, Bool.and_eq_true, beq_iff_eq] at h
    rcases h with h | ⟨rfl, h⟩
    · have hc : ¬ c = 0 := by
        intro hc; subst hc
        rw [UInt8.lt_iff_toNat_lt] at h
        have : (0 : UInt8).toNat = 0 := rfl
        omega
      rw [if_neg hc]
      split
      · rename_i hb
        subst hb
        exact Parts.head _ _ h
      · exact Parts.head _ _ h
    · exact (textB_parts s t h).app _

theorem bytesLess_tri : ∀ (s t : List UInt8), Op.bytesLess s t = false → s ≠ t → Op.bytesLess t s = true
  | [], [], _, h => absurd rfl h
  | [], _ :: _, h, _ => by simp [Op.bytesLess] at h
  | _ :: _, [], _, _ => by simp [Op.bytesLess]
  | b :: s, c :: t, h, hne => by
    simp only [Op.bytesLess, Bool.or_eq_false_iff, decide_eq_false_iff_not, Bool.and_eq_false_iff] at h
    simp only [Op.bytesLess, Bool.or_eq_true, decide_eq_true_eq, Bool.and_eq_true, beq_iff_eq]
    by_cases hbc : b = c
    · subst hbc
      right
      refine ⟨rfl, bytesLess_tri s t ?_ (fun e => hne (by rw [e]))⟩
      rcases h.2 with h2 | h2
      · simp at h2
      · exact h2
    · left
      have h1 := h.1
      rw [UInt8.lt_iff_toNat_lt] at h1 ⊢
      have : b.toNat ≠ c.toNat := fun e => hbc (UInt8.toNat_inj.1 e)
      omega

/-- The bytes of two items stand as the items do. -/
theorem itemB_order {k n : Int} {s : ByteArray} {k' n' : Int} {s' : ByteArray} (h1 : itemOk k n s 0 = true) (h2 : itemOk k' n' s' 0 = true) (hn : I64 n) (hn' : I64 n') :
    (ordR k n s k' n' s' = -1 ∧ Parts (itemB k n s) (itemB k' n' s')) ∨ (ordR k n s k' n' s' = 1 ∧ Parts (itemB k' n' s') (itemB k n s)) ∨ (ordR k n s k' n' s' = 0 ∧ k = k' ∧ n = n' ∧ s = s') := by
  have a1 := (itemOk_true h1).2
  have a2 := (itemOk_true h2).2
  have hE : ∀ {x : ByteArray}, x.toList.isEmpty = true → x = ⟨#[]⟩ := fun {x} hx => by
    rw [ByteArray.toList_eq] at hx
    apply ByteArray.ext
    apply Array.toList_inj.1
    rw [List.isEmpty_iff.1 hx]
  rcases a1 with ⟨rfl, e1⟩ | ⟨rfl, rfl, _⟩
  · rcases a2 with ⟨rfl, e2⟩ | ⟨rfl, rfl, _⟩
    · obtain rfl := hE e1
      obtain rfl := hE e2
      rcases Int.lt_trichotomy n n' with h | h | h
      · left
        refine ⟨by simp [ordR, h], ?_⟩
        simp only [itemB, if_pos]
        exact (intB_parts hn hn' h).cons 1
      · subst h
        right; right
        refine ⟨?_, rfl, rfl, rfl⟩
        simp [ordR, bytesLess_self]
      · right; left
        have hx : ¬ n < n' := by omega
        have hy : ¬ n = n' := by omega
        refine ⟨by simp [ordR, hx, hy], ?_⟩
        simp only [itemB, if_pos]
        exact (intB_parts hn' hn h).cons 1
    · left
      refine ⟨by simp [ordR], ?_⟩
      simp only [itemB, if_pos]
      exact Parts.head _ _ (by decide)
  · rcases a2 with ⟨rfl, e2⟩ | ⟨rfl, rfl, _⟩
    · right; left
      refine ⟨by simp [ordR], ?_⟩
      simp only [itemB, if_pos]
      exact Parts.head _ _ (by decide)
    · have e : itemB 2 0 s = 2 :: textB s.data.toList := by simp [itemB]
      have e' : itemB 2 0 s' = 2 :: textB s'.data.toList := by simp [itemB]
      rw [e, e']
      cases hl : Op.bytesLess s.data.toList s'.data.toList
      · by_cases heq : s = s'
        · subst heq
          right; right
          refine ⟨?_, rfl, rfl, rfl⟩
          simp [ordR, bytesLess_self]
        · right; left
          have hne : s.data.toList ≠ s'.data.toList := fun h => heq (by apply ByteArray.ext; exact Array.toList_inj.1 h)
          have hr := bytesLess_tri _ _ hl hne
          refine ⟨?_, (textB_parts _ _ hr).cons 2⟩
          have hb : (s.data.toList == s'.data.toList) = false := by rw [beq_eq_false_iff_ne]; exact hne
          simp [ordR, ByteArray.toList_eq, hl]
          exact fun h => heq (ByteArray.ext h)
      · left
        refine ⟨by simp [ordR, ByteArray.toList_eq, hl], (textB_parts _ _ hl).cons 2⟩

/-- Bytes that go on behind an item tell the item. -/
theorem itemB_one {k n : Int} {s : ByteArray} {k' n' : Int} {s' : ByteArray} {r r' : List UInt8} (h1 : itemOk k n s 0 = true) (h2 : itemOk k' n' s' 0 = true) (hn : I64 n) (hn' : I64 n') (h : itemB k n s ++ r = itemB k' n' s' ++ r') : k = k' ∧ n = n' ∧ s = s' ∧ r = r' := by
  rcases itemB_order h1 h2 hn hn' with ⟨_, hp⟩ | ⟨_, hp⟩ | ⟨_, rfl, rfl, rfl⟩
  · exact absurd h (hp.tail r r').ne
  · exact absurd h.symm (hp.tail r' r).ne
  · exact ⟨rfl, rfl, rfl, List.append_cancel_left h⟩
/-- The same items, wherever they lie. -/
def SameIt (x y : It) : Prop := x.k = y.k ∧ x.n = y.n ∧ x.s = y.s
def SameIts : List It → List It → Prop
  | [], [] => True
  | x :: l, y :: m => SameIt x y ∧ SameIts l m
  | _, _ => False
theorem itemsB_one : ∀ (xs ys : List It) (r r' : List UInt8), xs.length = ys.length → (∀ x, x ∈ xs → x.ok = true ∧ I64 x.n) → (∀ x, x ∈ ys → x.ok = true ∧ I64 x.n) → itemsB xs ++ r = itemsB ys ++ r' → SameIts xs ys
  | [], [], _, _, _, _, _, _ => trivial
  | [], _ :: _, _, _, hl, _, _, _ => by simp at hl
  | _ :: _, [], _, _, hl, _, _, _ => by simp at hl
  | x :: xs, y :: ys, r, r', hl, h1, h2, h => by
    have e : ∀ (z : It) (l : List It) (q : List UInt8), itemsB (z :: l) ++ q = itemB z.k z.n z.s ++ (itemsB l ++ q) := fun z l q => by simp [itemsB]
    rw [e, e] at h
    obtain ⟨hx, hxn⟩ := h1 x (List.mem_cons_self ..)
    obtain ⟨hy, hyn⟩ := h2 y (List.mem_cons_self ..)
    have ox := itemOk_true hx
    have oy := itemOk_true hy
    obtain ⟨e1, e2, e3, e4⟩ := itemB_one (itemOk_of ⟨by omega, ox.2⟩) (itemOk_of ⟨by omega, oy.2⟩) hxn hyn h
    exact ⟨⟨e1, e2, e3⟩, itemsB_one xs ys r r' (by simpa using hl) (fun z hz => h1 z (List.mem_cons_of_mem _ hz)) (fun z hz => h2 z (List.mem_cons_of_mem _ hz)) e4⟩
end Go.Proofs.YtefddiikdamnbaaGreatDoor.Dm

/- Data and entries by content; the document's lists of entries in plain words. No program's function is met here. -/
set_option maxRecDepth 100000
namespace Go.Proofs.YtefddiikdamnbaaGreatDoor.Dm
open Go Go.RowKit

/-- An item by content: its kind, number, text, and how long a list it has. -/
abbrev Ic := Int × Int × ByteArray × Nat
def itC (x : It) : Ic := (x.k, x.n, x.s, x.ll)
/-- A datum by content. -/
abbrev Dt := Int × Int × ByteArray × List Ic
/-- An entry by content. -/
abbrev Et := Dt × Int
def icIt (c : Ic) : It := ⟨c.1, c.2.1, c.2.2.1, none, c.2.2.2, 0⟩
def Dt.ok (d : Dt) : Bool := dOk d.1 d.2.1 d.2.2.1 (d.2.2.2.map icIt)
def Dt.kb (d : Dt) : List UInt8 := datB d.1 d.2.1 d.2.2.1 (d.2.2.2.map icIt)
/-- The numbers are ints. -/
def Dt.nums (d : Dt) : Prop := I64 d.2.1 ∧ ∀ c, c ∈ d.2.2.2 → I64 c.2.1
theorem itemsB_map (xs : List It) : itemsB ((xs.map itC).map icIt) = itemsB xs := by
  induction xs with
  | nil => rfl
  | cons x l ih =>
    have e : ∀ (z : It) (l : List It), itemsB (z :: l) = itemB z.k z.n z.s ++ itemsB l := fun z l => by simp [itemsB]
    rw [List.map_cons, List.map_cons, e, e, ih]; rfl
theorem all_map (xs : List It) : ((xs.map itC).map icIt).all It.ok = xs.all It.ok := by
  induction xs with
  | nil => rfl
  | cons x l ih => rw [List.map_cons, List.map_cons, List.all_cons, List.all_cons, ih]; rfl
theorem dt_ok (k n : Int) (s : ByteArray) (xs : List It) : Dt.ok (k, n, s, xs.map itC) = dOk k n s xs := by
  unfold Dt.ok dOk
  by_cases hk : k = 3
  · simp only [if_pos hk]
    unfold listOk
    rw [all_map, List.length_map, List.length_map]
  · simp only [if_neg hk, List.length_map]
theorem dt_kb (k n : Int) (s : ByteArray) (xs : List It) : Dt.kb (k, n, s, xs.map itC) = datB k n s xs := by
  unfold Dt.kb datB
  by_cases hk : k = 3
  · simp only [if_pos hk, List.length_map, itemsB_map]
  · simp only [if_neg hk]
theorem sameIts_map : ∀ {l m : List Ic}, SameIts (l.map icIt) (m.map icIt) → (∀ c, c ∈ l → c.2.2.2 = 0) → (∀ c, c ∈ m → c.2.2.2 = 0) → l = m
  | [], [], _, _, _ => rfl
  | [], _ :: _, h, _, _ => h.elim
  | _ :: _, [], h, _, _ => h.elim
  | (a, b, c, d) :: l, (a', b', c', d') :: m, ⟨⟨e1, e2, e3⟩, h⟩, h1, h2 => by
    have e1' : a = a' := e1
    have e2' : b = b' := e2
    have e3' : c = c' := e3
    have e4 : d = 0 := h1 _ (List.mem_cons_self ..)
    have e5 : d' = 0 := h2 _ (List.mem_cons_self ..)
    subst e1' e2' e3' e4 e5
    rw [sameIts_map h (fun c hc => h1 c (List.mem_cons_of_mem _ hc)) (fun c hc => h2 c (List.mem_cons_of_mem _ hc))]
/-- A datum's bytes tell the datum. -/
theorem kb_inj {d e : Dt} (hd : d.ok = true) (he : e.ok = true) (nd : d.nums) (ne : e.nums) (h : d.kb = e.kb) : d = e := by
  obtain ⟨k, n, s, l⟩ := d
  obtain ⟨k', n', s', m⟩ := e
  have first : ∀ (k n : Int) (s : ByteArray) (l : List Ic), Dt.ok (k, n, s, l) = true → k ≠ 3 → l = [] ∧ itemOk k n s 0 = true := fun k n s l h hk => by
    have h1 : itemOk k n s (l.map icIt).length = true := by simpa [Dt.ok, dOk, hk] using h
    have h2 := itemOk_true h1
    refine ⟨?_, itemOk_of ⟨by omega, h2.2⟩⟩
    cases l with
    | nil => rfl
    | cons x xs => exact absurd h2.1 (by simp)
  have hit : ∀ (k n : Int) (s : ByteArray), itemOk k n s 0 = true → ∃ b r, itemB k n s = b :: r ∧ b ≠ 3 := fun k n s h => by
    unfold itemB
    split
    · exact ⟨1, _, rfl, by decide⟩
    · exact ⟨2, _, rfl, by decide⟩
  have hlist : ∀ (n : Int) (s : ByteArray) (l : List Ic), Dt.ok (3, n, s, l) = true → n = 0 ∧ s = ⟨#[]⟩ ∧ l.length ≤ 8 ∧ ∀ c, c ∈ l → (icIt c).ok = true := fun n s l h => by
    have h1 : listOk n s (l.map icIt) = true := by simpa [Dt.ok, dOk] using h
    simp only [listOk, Bool.and_eq_true, decide_eq_true_eq, List.all_eq_true] at h1
    refine ⟨h1.1.1, ?_, by have := h1.1.2.2; simp at this; omega, fun c hc => h1.2 _ (List.mem_map.2 ⟨c, hc, rfl⟩)⟩
    have h2 := h1.1.2.1
    rw [ByteArray.toList_eq] at h2
    apply ByteArray.ext
    apply Array.toList_inj.1
    rw [List.isEmpty_iff.1 h2]
  by_cases hk : k = 3
  · subst hk
    obtain ⟨rfl, rfl, hl, hall⟩ := hlist n s l hd
    by_cases hk' : k' = 3
    · subst hk'
      obtain ⟨rfl, rfl, hl', hall'⟩ := hlist n' s' m he
      simp only [Dt.kb, datB, if_true, List.length_map, List.cons.injEq, true_and] at h
      obtain ⟨h1, h2⟩ := h
      have hlen : l.length = m.length := by
        have e1 := byt_nat (l.length : Int)
        have e2 := byt_nat (m.length : Int)
        rw [h1] at e1
        omega
      have hs := itemsB_one (l.map icIt) (m.map icIt) [] [] (by simp [hlen]) (fun x hx => by
        obtain ⟨c, hc, rfl⟩ := List.mem_map.1 hx
        exact ⟨hall c hc, nd.2 c hc⟩) (fun x hx => by
        obtain ⟨c, hc, rfl⟩ := List.mem_map.1 hx
        exact ⟨hall' c hc, ne.2 c hc⟩) (by rw [List.append_nil, List.append_nil]; exact h2)
      have zero : ∀ c, (icIt c).ok = true → c.2.2.2 = 0 := fun c hc => by
        have := (itemOk_true hc).1
        have e : (icIt c).ll = c.2.2.2 := rfl
        rw [e] at this; omega
      rw [sameIts_map hs (fun c hc => zero c (hall c hc)) (fun c hc => zero c (hall' c hc))]
    · obtain ⟨rfl, hi⟩ := first k' n' s' m he hk'
      obtain ⟨b, r, e1, e2⟩ := hit k' n' s' hi
      simp only [Dt.kb, datB, if_true, if_neg hk', e1] at h
      injection h with h _
      exact absurd h.symm e2
  · obtain ⟨rfl, hi⟩ := first k n s l hd hk
    by_cases hk' : k' = 3
    · subst hk'
      obtain ⟨b, r, e1, e2⟩ := hit k n s hi
      simp only [Dt.kb, datB, if_true, if_neg hk, e1] at h
      injection h with h _
      exact absurd h e2
    · obtain ⟨rfl, hi'⟩ := first k' n' s' m he hk'
      simp only [Dt.kb, datB, if_neg hk, if_neg hk'] at h
      obtain ⟨rfl, rfl, rfl, _⟩ := itemB_one (r := []) (r' := []) hi hi' nd.1 ne.1 (by rw [List.append_nil, List.append_nil]; exact h)
      rfl

/-! ### Lists of entries -/
instance decBytes : DecidableEq ByteArray := fun a b => decidable_of_iff (a.data = b.data) ⟨fun h => ByteArray.ext h, fun h => by rw [h]⟩
instance decIc : DecidableEq Ic := inferInstanceAs (DecidableEq (Int × Int × ByteArray × Nat))
instance decDt : DecidableEq Dt := inferInstanceAs (DecidableEq (Int × Int × ByteArray × List Ic))
instance decEt : DecidableEq Et := inferInstanceAs (DecidableEq (Dt × Int))
instance decMemE (e : Et) (l : List Et) : Decidable (e ∈ l) := decidable_of_iff (∃ x, x ∈ l ∧ x = e) ⟨fun ⟨_, h, e⟩ => e ▸ h, fun h => ⟨e, h, rfl⟩⟩
def aheadE (a b : Et) : Bool := Op.bytesLess a.1.kb b.1.kb || a.1.kb == b.1.kb && decide (a.2 < b.2)
def withE (l : List Et) (e : Et) : List Et := l.takeWhile (fun x => !aheadE e x) ++ e :: l.dropWhile (fun x => !aheadE e x)
def withoutE (l : List Et) (e : Et) : List Et := l.filter fun x => decide (x ≠ e)
def findE (l : List Et) (d : Dt) : List Int := (l.filter fun x => decide (x.1 = d)).map (·.2)
def mayE (e : Et) : Bool := decide (0 ≤ e.2 ∧ e.2 < 16777216) && e.1.ok
def refusedE (kinds : List Int) (e : Et) : Int := if mayE e = true then (if e.1.1 ∈ kinds then 0 else 10) else 1
end Go.Proofs.YtefddiikdamnbaaGreatDoor.Dm

/- The contracts of the reference's May. -/
set_option maxRecDepth 100000
namespace Go.Proofs.YtefddiikdamnbaaGreatDoor.Dm
open Go.RowKit

theorem listOk_parts {n : Int} {s : ByteArray} {xs : List It} (h : listOk n s xs = true) : n = 0 ∧ s.toList.isEmpty = true ∧ (xs.length : Int) ≤ 8 ∧ ∀ x ∈ xs, x.ok = true := by
  simp only [listOk, Bool.and_eq_true, decide_eq_true_eq, List.all_eq_true] at h
  exact ⟨h.1.1, h.1.2.1, h.1.2.2, h.2⟩

/-- Where no item fails, the list does for another reason. -/
theorem listOk_first {n : Int} {s : ByteArray} {xs : List It} (h : listOk n s xs = false) (hn : n = 0) (hs : s.toList.isEmpty = true) (hl : (xs.length : Int) ≤ 8) : ¬ ∀ i (hi : i < xs.length), (xs[i]'hi).ok = true := by
  intro hall
  have : listOk n s xs = true := by
    simp only [listOk, Bool.and_eq_true, decide_eq_true_eq, List.all_eq_true]
    refine ⟨⟨hn, hs, hl⟩, fun x hx => ?_⟩
    obtain ⟨i, hi, rfl⟩ := List.getElem_of_mem hx
    exact hall i hi
  simp [this] at h

end Go.Proofs.YtefddiikdamnbaaGreatDoor.Dm

/- The contract of the reference's Same: whether two data are alike; other memory stands. -/
set_option maxRecDepth 100000
namespace Go.Proofs.YtefddiikdamnbaaGreatDoor.Dm
open Go Go.RowKit

theorem str_ne {s t : ByteArray} (h : s ≠ t) : (s.toList != t.toList) = true := by
  rw [bne_iff_ne]
  intro e
  rw [ByteArray.toList_eq, ByteArray.toList_eq] at e
  exact h (by apply ByteArray.ext; exact Array.toList_inj.1 e)

set_option maxHeartbeats 800000 in
theorem same_no (k n : Int) (s : ByteArray) (a : Option Addr) (ll lc : Nat) (k' n' : Int) (s' : ByteArray) (a' : Option Addr) (ll' lc' : Nat) (w : World) (h : k ≠ k' ∨ n ≠ n' ∨ s ≠ s' ∨ ll ≠ ll') :
    Calls Tryz.prog 125 #[.agg #[.int .i64 k, .int .i64 n, .string s, .slice a ll lc], .agg #[.int .i64 k', .int .i64 n', .string s', .slice a' ll' lc']] w fun e w' => e = .returned (.bool false) ∧ Below w.heap.size w w' := by
  by_cases h1 : k = k'
  · subst h1
    by_cases h2 : n = n'
    · subst h2
      by_cases h3 : s = s'
      · subst h3
        have hl : ll ≠ ll' := by simpa using h
        have hb : (((ll : Int)) != (ll' : Int)) = true := by rw [bne_iff_ne]; omega
        clear h
        go_enter Tryz.func125, Tryz.ntmps125
        go_wp2
        go_ret
        exact ⟨rfl, ((Below.refl _ _).alloc (Nat.le_refl _) _).alloc (by simp) _⟩
      · have hb := str_ne h3
        have hb2 : (s.toList == s'.toList) = false := by simpa [bne] using hb
        clear h h3
        go_enter Tryz.func125, Tryz.ntmps125
        go_wp2
        go_ret
        exact ⟨rfl, ((Below.refl _ _).alloc (Nat.le_refl _) _).alloc (by simp) _⟩
    · have hb : (n != n') = true := by rw [bne_iff_ne]; exact h2
      clear h
      go_enter Tryz.func125, Tryz.ntmps125
      go_wp2
      go_ret
      exact ⟨rfl, ((Below.refl _ _).alloc (Nat.le_refl _) _).alloc (by simp) _⟩
  · have hb : (k != k') = true := by rw [bne_iff_ne]; exact h1
    clear h
    go_enter Tryz.func125, Tryz.ntmps125
    go_wp2
    go_ret
    exact ⟨rfl, ((Below.refl _ _).alloc (Nat.le_refl _) _).alloc (by simp) _⟩

set_option maxHeartbeats 3200000 in
theorem same_lists (k n : Int) (s : ByteArray) (a : Option Addr) (xs : List It) (lc : Nat) (a' : Option Addr) (ys : List It) (lc' : Nat) (w : World) (hS : Sl w a xs) (hS' : Sl w a' ys) (hlen : ys.length = xs.length) (h8 : xs.length ≤ 8)
    (h0 : ∀ x, x ∈ xs → x.ll = 0) (h0' : ∀ x, x ∈ ys → x.ll = 0) :
    Calls Tryz.prog 125 #[.agg #[.int .i64 k, .int .i64 n, .string s, .slice a xs.length lc], .agg #[.int .i64 k, .int .i64 n, .string s, .slice a' ys.length lc']] w fun e w' => e = .returned (.bool (decide (xs.map itC = ys.map itC))) ∧ Below w.heap.size w w' := by
  rw [hlen]
  obtain ⟨R, hR⟩ : ∃ R, R = decide (xs.map itC = ys.map itC) := ⟨_, rfl⟩
  rw [← hR]
  have HS := Lib.hid hS; have HS' := Lib.hid hS'; have HC := Lib.hid h0; have HC' := Lib.hid h0'; have HLEN := Lib.hid hlen; have HR := Lib.hid hR
  obtain ⟨ll, hll⟩ : ∃ ll, ll = xs.length := ⟨_, rfl⟩
  rw [← hll] at h8 ⊢
  have HL := Lib.hid hll
  clear hS hS' h0 h0' hlen hll hR
  go_enter Tryz.func125, Tryz.ntmps125
  go_wp2
  go_loopw [5] (fun i wr => ∃ j : Nat, j ≤ ll ∧ i = .int .i64 j ∧ Below (w.heap.size + 1 + 1) ((w.alloc (.cells #[.int .i64 k, .int .i64 n, .string s, .slice a ll lc] 81)).alloc (.cells #[.int .i64 k, .int .i64 n, .string s, .slice a' ll lc'] 81)) wr ∧ Hid ((xs.map itC).take j = (ys.map itC).take j)) (fun i _ => ll - (intOf i).toNat)
  case atStart => exact ⟨0, Nat.zero_le _, rfl, Below.refl _ _, Lib.hid rfl⟩
  case round =>
    obtain ⟨j, hj, rfl, hb, HP⟩ := hrel
    obtain ⟨⟨c0, c1, c2, c3⟩, d0, d1, d2, d3⟩ := box_cells2 hb
    have HBW : Hid (Below w.heap.size w wr) := Lib.hid (below_al2 _ _ (by simpa using hb))
    have hsz := hb.size
    simp at hsz
    have HB := Lib.hid hb; clear hb
    by_cases hlt : j < ll
    · have hlt' : j < xs.length := by rw [← HL.out]; exact hlt
      have hlt2 : j < ys.length := by rw [HLEN.out]; exact hlt'
      obtain ⟨b, off, rfl, hbw, hx⟩ := (HS.out.below HBW.out (Nat.le_refl _)).at hlt'
      obtain ⟨b', off', rfl, hbw', hy⟩ := (HS'.out.below HBW.out (Nat.le_refl _)).at hlt2
      obtain ⟨x0, x1, x2, x3⟩ := hx j hlt'
      obtain ⟨y0, y1, y2, y3⟩ := hy j hlt2
      rw [HC.out _ (List.getElem_mem hlt')] at x3
      rw [HC'.out _ (List.getElem_mem hlt2)] at y3
      obtain ⟨X, hX⟩ : ∃ X, X = xs[j]'hlt' := ⟨_, rfl⟩
      obtain ⟨Y, hY⟩ : ∃ Y, Y = ys[j]'hlt2 := ⟨_, rfl⟩
      have hX0 : X.ll = 0 := by rw [hX]; exact HC.out _ (List.getElem_mem hlt')
      have hY0 : Y.ll = 0 := by rw [hY]; exact HC'.out _ (List.getElem_mem hlt2)
      rw [← hX] at x0 x1 x2 x3
      rw [← hY] at y0 y1 y2 y3
      have HX : Hid ((xs.map itC)[j]'(by rw [List.length_map]; exact hlt') = itC X) := Lib.hid (by rw [List.getElem_map, hX])
      have HY : Hid ((ys.map itC)[j]'(by rw [List.length_map]; exact hlt2) = itC Y) := Lib.hid (by rw [List.getElem_map, hY])
      obtain ⟨xk, xn, xt, xa, xl, xc⟩ := X
      obtain ⟨yk, yn, yt, ya, yl, yc⟩ := Y
      simp only at x0 x1 x2 x3 y0 y1 y2 y3 hX0 hY0
      subst hX0 hY0
      clear hx hy hX hY
      have hji : (j : Int) < (ll : Int) := by omega
      have hj0 : (0 : Int) ≤ (j : Int) := by omega
      have hz0 : w.heap.size < wr.heap.size := by omega
      have hz1 : w.heap.size + 1 < wr.heap.size := by omega
      have no : itC ⟨xk, xn, xt, xa, 0, xc⟩ ≠ itC ⟨yk, yn, yt, ya, 0, yc⟩ → R = false := fun h => by
        rw [HR.out, decide_eq_false_iff_not]
        intro e
        refine h ?_
        rw [← HX.out, ← HY.out]
        simp only [e]
      have NO := Lib.hid no; clear no
      by_cases hk : xk = yk
      · subst hk
        by_cases hn : xn = yn
        · subst hn
          by_cases ht : xt = yt
          · subst ht
            have HN : Hid ((xs.map itC).take (j + 1) = (ys.map itC).take (j + 1)) := Lib.hid (by
              rw [List.take_add_one, List.take_add_one, HP.out, List.getElem?_eq_getElem (by rw [List.length_map]; exact hlt'), List.getElem?_eq_getElem (by rw [List.length_map]; exact hlt2), HX.out, HY.out]
              rfl)
            go_wp2
            go_region
            all_goals
              go_wp2
            all_goals
              go_roundw
              case rel => exact ⟨j + 1, by omega, by go_num, ((HB.out.alloc (by omega) _).alloc (by rw [World.size_alloc]; omega) _).drew, HN⟩
              case measure => simp [intOf]; omega
          · have hb1 := str_ne ht
            have hb2 : (xt.toList == yt.toList) = false := by simpa [bne] using hb1
            have HF : Hid (R = false) := Lib.hid (NO.out (fun e => ht (by simp only [itC, Prod.mk.injEq] at e; exact e.2.2.1)))
            clear ht
            go_wp2
            go_region
            all_goals
              go_wp2
            all_goals
              go_ret
              exact ⟨congrArg (fun b => Ending.returned (.bool b)) HF.out.symm, HBW.out.trans (((Below.refl _ _).alloc (Nat.le_refl _) _).alloc (by rw [World.size_alloc]; omega) _ |>.drew |>.mono (by have := HBW.out.size; omega))⟩
        · have hb1 : (xn != yn) = true := by rw [bne_iff_ne]; exact hn
          have HF : Hid (R = false) := Lib.hid (NO.out (fun e => hn (by simp only [itC, Prod.mk.injEq] at e; exact e.2.1)))
          go_wp2
          go_region
          all_goals
            go_wp2
          all_goals
            go_ret
            exact ⟨congrArg (fun b => Ending.returned (.bool b)) HF.out.symm, HBW.out.trans (((Below.refl _ _).alloc (Nat.le_refl _) _).alloc (by rw [World.size_alloc]; omega) _ |>.drew |>.mono (by have := HBW.out.size; omega))⟩
      · have hb1 : (xk != yk) = true := by rw [bne_iff_ne]; exact hk
        have HF : Hid (R = false) := Lib.hid (NO.out (fun e => hk (by simp only [itC, Prod.mk.injEq] at e; exact e.1)))
        go_wp2
        go_region
        all_goals
          go_wp2
        all_goals
          go_ret
          exact ⟨congrArg (fun b => Ending.returned (.bool b)) HF.out.symm, HBW.out.trans (((Below.refl _ _).alloc (Nat.le_refl _) _).alloc (by rw [World.size_alloc]; omega) _ |>.drew |>.mono (by have := HBW.out.size; omega))⟩
    · have HT : Hid (R = true) := Lib.hid (by
        rw [HR.out, decide_eq_true_eq]
        have h := HP.out
        rw [List.take_of_length_le (by rw [List.length_map]; have := HL.out; omega), List.take_of_length_le (by rw [List.length_map]; have := HL.out; have := HLEN.out; omega)] at h
        exact h)
      go_wp2
      go_ret
      exact ⟨congrArg (fun b => Ending.returned (.bool b)) HT.out.symm, HBW.out⟩

/-- Same, of any two data whose items have no lists. -/
theorem same_any (k n : Int) (s : ByteArray) (a : Option Addr) (xs : List It) (lc : Nat) (k' n' : Int) (s' : ByteArray) (a' : Option Addr) (ys : List It) (lc' : Nat) (w : World) (hS : Sl w a xs) (hS' : Sl w a' ys) (h8 : xs.length ≤ 8)
    (h0 : ∀ x, x ∈ xs → x.ll = 0) (h0' : ∀ x, x ∈ ys → x.ll = 0) :
    Calls Tryz.prog 125 #[.agg #[.int .i64 k, .int .i64 n, .string s, .slice a xs.length lc], .agg #[.int .i64 k', .int .i64 n', .string s', .slice a' ys.length lc']] w fun e w' => e = .returned (.bool (decide (((k, n, s, xs.map itC) : Dt) = (k', n', s', ys.map itC)))) ∧ Below w.heap.size w w' := by
  by_cases h : k ≠ k' ∨ n ≠ n' ∨ s ≠ s' ∨ xs.length ≠ ys.length
  · have e : decide (((k, n, s, xs.map itC) : Dt) = (k', n', s', ys.map itC)) = false := by
      rw [decide_eq_false_iff_not]
      intro e
      simp only [Prod.mk.injEq] at e
      obtain ⟨e1, e2, e3, e4⟩ := e
      have e5 := congrArg List.length e4
      simp only [List.length_map] at e5
      simp_all
    rw [e]
    exact same_no k n s a _ lc k' n' s' a' _ lc' w h
  · have e1 : k = k' := by false_or_by_contra; exact h (.inl ‹_›)
    have e2 : n = n' := by false_or_by_contra; exact h (.inr (.inl ‹_›))
    have e3 : s = s' := by false_or_by_contra; exact h (.inr (.inr (.inl ‹_›)))
    have e4 : xs.length = ys.length := by false_or_by_contra; exact h (.inr (.inr (.inr ‹_›)))
    subst e1 e2 e3
    have e : decide (((k, n, s, xs.map itC) : Dt) = (k, n, s, ys.map itC)) = decide (xs.map itC = ys.map itC) := by simp
    rw [e]
    exact same_lists k n s a xs lc a' ys lc' w hS hS' e4.symm h8 h0 h0'
end Go.Proofs.YtefddiikdamnbaaGreatDoor.Dm
