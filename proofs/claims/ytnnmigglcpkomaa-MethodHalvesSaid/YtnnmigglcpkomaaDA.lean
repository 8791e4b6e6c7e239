/- Data in plain words: which may be, where they lie, their bytes. No program's function is met here. -/
import Derived.Test.YtnnmigglcpkomaaProg
import Derived.WalkKit
import Derived.WalkLawsBesides
import Derived.WalkSpells
import Derived.Outline
import Derived.Below
import Derived.Lib.Hide
import Derived.Laws.Bits64
import Derived.Laws.BitsAllLaws
set_option maxRecDepth 100000
namespace Go.Proofs.Ytnnmigglcpkomaa.Dm
open Go.RowKit

def itemOk (k n : Int) (s : ByteArray) (ll : Nat) : Bool :=
  decide (¬ 0 < ll ∧ (k = 1 ∧ s.toList.isEmpty = true ∨ k = 2 ∧ n = 0 ∧ (s.size : Int) ≤ 32))

theorem itemOk_true {k n : Int} {s : ByteArray} {ll : Nat} (h : itemOk k n s ll = true) : ¬ 0 < ll ∧ (k = 1 ∧ s.toList.isEmpty = true ∨ k = 2 ∧ n = 0 ∧ (s.size : Int) ≤ 32) := of_decide_eq_true h

theorem itemOk_false {k n : Int} {s : ByteArray} {ll : Nat} (h : itemOk k n s ll = false) : ¬ (¬ 0 < ll ∧ (k = 1 ∧ s.toList.isEmpty = true ∨ k = 2 ∧ n = 0 ∧ (s.size : Int) ≤ 32)) := of_decide_eq_false h

theorem itemOk_of {k n : Int} {s : ByteArray} {ll : Nat} (h : ¬ 0 < ll ∧ (k = 1 ∧ s.toList.isEmpty = true ∨ k = 2 ∧ n = 0 ∧ (s.size : Int) ≤ 32)) : itemOk k n s ll = true := decide_eq_true h

theorem itemOk_not {k n : Int} {s : ByteArray} {ll : Nat} (h : ¬ (¬ 0 < ll ∧ (k = 1 ∧ s.toList.isEmpty = true ∨ k = 2 ∧ n = 0 ∧ (s.size : Int) ≤ 32))) : itemOk k n s ll = false := decide_eq_false h

/-- A datum without its items: its kind, number, text, and where its list lies. -/
structure It where
  k : Int
  n : Int
  s : ByteArray
  a : Option Addr
  ll : Nat
  lc : Nat

def It.ok (x : It) : Bool := itemOk x.k x.n x.s x.ll

/-- The cells of the items of a list that lies at block b from off on. -/
def CellsOf (w : World) (b off : Nat) (xs : List It) : Prop :=
  ∀ j (h : j < xs.length), w.cell? ⟨b, off + j * 4, none⟩ = some (.int .i64 (xs[j]'h).k) ∧ w.cell? ⟨b, off + j * 4 + 1, none⟩ = some (.int .i64 (xs[j]'h).n) ∧
    w.cell? ⟨b, off + j * 4 + 2, none⟩ = some (.string (xs[j]'h).s) ∧ w.cell? ⟨b, off + j * 4 + 3, none⟩ = some (.slice (xs[j]'h).a (xs[j]'h).ll (xs[j]'h).lc)

/-- The items xs lie where the slice's pointer points. -/
def Sl (w : World) (a : Option Addr) (xs : List It) : Prop :=
  xs = [] ∨ ∃ b off, a = some ⟨b, off, none⟩ ∧ b < w.heap.size ∧ CellsOf w b off xs

theorem Sl.below {w w' : World} {a : Option Addr} {xs : List It} {B : Nat} (h : Sl w a xs) (hb : Below B w w') (hB : w.heap.size ≤ B) : Sl w' a xs := by
  rcases h with h | ⟨b, off, ha, hlt, hc⟩
  · exact .inl h
  · refine .inr ⟨b, off, ha, ?_, fun j hj => ?_⟩
    · have := hb.size; omega
    · obtain ⟨h0, h1, h2, h3⟩ := hc j hj
      exact ⟨(hb.cell (p := ⟨b, _, none⟩) (by show b < B; omega)).trans h0, (hb.cell (p := ⟨b, _, none⟩) (by show b < B; omega)).trans h1, (hb.cell (p := ⟨b, _, none⟩) (by show b < B; omega)).trans h2, (hb.cell (p := ⟨b, _, none⟩) (by show b < B; omega)).trans h3⟩

/-- The items lie in a block below B. -/
def SlB (B : Nat) (w : World) (a : Option Addr) (xs : List It) : Prop :=
  xs = [] ∨ ∃ b off, a = some ⟨b, off, none⟩ ∧ b < B ∧ CellsOf w b off xs

theorem SlB.below {w w' : World} {a : Option Addr} {xs : List It} {B : Nat} (h : SlB B w a xs) (hb : Below B w w') : SlB B w' a xs := by
  rcases h with h | ⟨b, off, ha, hlt, hc⟩
  · exact .inl h
  · refine .inr ⟨b, off, ha, hlt, fun j hj => ?_⟩
    obtain ⟨h0, h1, h2, h3⟩ := hc j hj
    exact ⟨(hb.cell (p := ⟨b, _, none⟩) hlt).trans h0, (hb.cell (p := ⟨b, _, none⟩) hlt).trans h1, (hb.cell (p := ⟨b, _, none⟩) hlt).trans h2, (hb.cell (p := ⟨b, _, none⟩) hlt).trans h3⟩

theorem SlB.sl {w : World} {a : Option Addr} {xs : List It} {B : Nat} (h : SlB B w a xs) (hB : B ≤ w.heap.size) : Sl w a xs := by
  rcases h with h | ⟨b, off, ha, hlt, hc⟩
  · exact .inl h
  · exact .inr ⟨b, off, ha, by omega, hc⟩

theorem Sl.slB {w : World} {a : Option Addr} {xs : List It} (h : Sl w a xs) : SlB w.heap.size w a xs := h

theorem SlB.at {B : Nat} {w : World} {a : Option Addr} {xs : List It} (h : SlB B w a xs) {j : Nat} (hj : j < xs.length) :
    ∃ b off, a = some ⟨b, off, none⟩ ∧ b < B ∧ CellsOf w b off xs := by
  rcases h with rfl | h
  · simp at hj
  · exact h

theorem Sl.at {w : World} {a : Option Addr} {xs : List It} (h : Sl w a xs) {j : Nat} (hj : j < xs.length) :
    ∃ b off, a = some ⟨b, off, none⟩ ∧ b < w.heap.size ∧ CellsOf w b off xs := by
  rcases h with rfl | h
  · simp at hj
  · exact h

def listOk (n : Int) (s : ByteArray) (xs : List It) : Bool :=
  decide (n = 0 ∧ s.toList.isEmpty = true ∧ (xs.length : Int) ≤ 8) && xs.all It.ok

def dOk (k n : Int) (s : ByteArray) (xs : List It) : Bool := if k = 3 then listOk n s xs else itemOk k n s xs.length

theorem bcell {W w1 : World} (hb : Below W.heap.size W w1) : (∀ b o, b < W.heap.size → w1.cell? ⟨b, o, none⟩ = W.cell? ⟨b, o, none⟩) ∧ (∀ b o, b < W.heap.size → w1.frozen? ⟨b, o, none⟩ = W.frozen? ⟨b, o, none⟩) :=
  ⟨fun b o h => hb.cell (p := ⟨b, o, none⟩) h, fun b o h => hb.frozen (p := ⟨b, o, none⟩) h⟩

/-- A datum's own box, behind whatever was done above it. -/
theorem box_cells {w wr : World} {v0 v1 v2 v3 : Value} {T : TypeId} (hb : Below (w.heap.size + 1) (w.alloc (.cells #[v0, v1, v2, v3] T)) wr) :
    wr.cell? ⟨w.heap.size, 0, none⟩ = some v0 ∧ wr.cell? ⟨w.heap.size, 1, none⟩ = some v1 ∧ wr.cell? ⟨w.heap.size, 2, none⟩ = some v2 ∧ wr.cell? ⟨w.heap.size, 3, none⟩ = some v3 := by
  refine ⟨(hb.cell (p := ⟨w.heap.size, 0, none⟩) (by simp)).trans ?_, (hb.cell (p := ⟨w.heap.size, 1, none⟩) (by simp)).trans ?_, (hb.cell (p := ⟨w.heap.size, 2, none⟩) (by simp)).trans ?_, (hb.cell (p := ⟨w.heap.size, 3, none⟩) (by simp)).trans ?_⟩ <;>
    simp

theorem box_frozen {w wr : World} {v0 v1 v2 v3 : Value} {T : TypeId} (hb : Below (w.heap.size + 1) (w.alloc (.cells #[v0, v1, v2, v3] T)) wr) :
    wr.frozen? ⟨w.heap.size, 0, none⟩ = false ∧ wr.frozen? ⟨w.heap.size, 1, none⟩ = false ∧ wr.frozen? ⟨w.heap.size, 2, none⟩ = false ∧ wr.frozen? ⟨w.heap.size, 3, none⟩ = false := by
  refine ⟨(hb.frozen (p := ⟨w.heap.size, 0, none⟩) (by simp)).trans ?_, (hb.frozen (p := ⟨w.heap.size, 1, none⟩) (by simp)).trans ?_, (hb.frozen (p := ⟨w.heap.size, 2, none⟩) (by simp)).trans ?_, (hb.frozen (p := ⟨w.heap.size, 3, none⟩) (by simp)).trans ?_⟩ <;>
    simp

/-- What is below a world that was allocated in. -/
theorem below_al {w w' : World} (o : Obj) (h : Below (w.alloc o).heap.size (w.alloc o) w') : Below w.heap.size w w' :=
  ((Below.refl _ _).alloc (Nat.le_refl _) o).trans (h.mono (by simp))

theorem below_al2 {w w' : World} (o o2 : Obj) (h : Below ((w.alloc o).alloc o2).heap.size ((w.alloc o).alloc o2) w') : Below w.heap.size w w' :=
  below_al o (below_al o2 h)

/-- Two data's boxes. -/
theorem box_cells2 {w wr : World} {v0 v1 v2 v3 u0 u1 u2 u3 : Value} {T U : TypeId} (hb : Below (w.heap.size + 1 + 1) ((w.alloc (.cells #[v0, v1, v2, v3] T)).alloc (.cells #[u0, u1, u2, u3] U)) wr) :
    (wr.cell? ⟨w.heap.size, 0, none⟩ = some v0 ∧ wr.cell? ⟨w.heap.size, 1, none⟩ = some v1 ∧ wr.cell? ⟨w.heap.size, 2, none⟩ = some v2 ∧ wr.cell? ⟨w.heap.size, 3, none⟩ = some v3) ∧
    (wr.cell? ⟨w.heap.size + 1, 0, none⟩ = some u0 ∧ wr.cell? ⟨w.heap.size + 1, 1, none⟩ = some u1 ∧ wr.cell? ⟨w.heap.size + 1, 2, none⟩ = some u2 ∧ wr.cell? ⟨w.heap.size + 1, 3, none⟩ = some u3) := by
  refine ⟨box_cells (((Below.refl _ _).alloc (by simp) _).trans (hb.mono (by omega))), ?_⟩
  have := box_cells (w := w.alloc (.cells #[v0, v1, v2, v3] T)) (wr := wr) (v0 := u0) (v1 := u1) (v2 := u2) (v3 := u3) (T := U) (by simpa using hb)
  simpa using this

theorem below_then {B : Nat} {w wr w1 : World} (hb : Below B w wr) (hB : B ≤ w.heap.size) (h1 : Below wr.heap.size wr w1) : Below B w w1 :=
  hb.trans (h1.mono (by have := hb.size; omega))

theorem below_then_al {B : Nat} {w wr w1 : World} (hb : Below B w wr) (hB : B ≤ w.heap.size) (o : Obj) (h1 : Below (wr.alloc o).heap.size (wr.alloc o) w1) : Below B w w1 :=
  below_then hb hB (below_al o h1)

theorem below_then_al2 {B : Nat} {w wr w1 : World} (hb : Below B w wr) (hB : B ≤ w.heap.size) (o o2 : Obj) (h1 : Below ((wr.alloc o).alloc o2).heap.size ((wr.alloc o).alloc o2) w1) : Below B w w1 :=
  below_then_al hb hB o (below_al o2 h1)

/-- The byte of a number: what it leaves by 256. -/
def byt (x : Int) : UInt8 := UInt8.ofNat (x % 256).toNat

theorem byt_nat (x : Int) : ((byt x).toNat : Int) = x % 256 := by
  unfold byt
  have h : (x % 256).toNat < 256 := by omega
  rw [UInt8.toNat_ofNat', Nat.mod_eq_of_lt h]
  omega

def uOf (n : Int) : Int := bits BinOp.xor IntKind.u64 (IntKind.u64.wrap n) 9223372036854775808

/-- An int's sign turned. -/
theorem uOf_eq (n : Int) (h0 : -9223372036854775808 ≤ n) (h1 : n ≤ 9223372036854775807) : uOf n = n + 9223372036854775808 := by
  unfold uOf
  rw [IntKind.wrap_u64]
  obtain ⟨m, hm⟩ : ∃ m : Nat, n % 18446744073709551616 = (m : Int) := ⟨(n % 18446744073709551616).toNat, by omega⟩
  have hmlt : m < 18446744073709551616 := by omega
  rw [hm]
  have := bits_xor_u64_nat m 9223372036854775808 hmlt (by decide)
  rw [show ((9223372036854775808 : Int)) = ((9223372036854775808 : Nat) : Int) from rfl, this]
  have hx : m ^^^ 9223372036854775808 = if m < 9223372036854775808 then m + 9223372036854775808 else m - 9223372036854775808 := by
    have e1 : (m ^^^ 9223372036854775808) / 2 ^ 63 = m / 2 ^ 63 ^^^ 9223372036854775808 / 2 ^ 63 := Nat.xor_div_two_pow
    have e2 : (m ^^^ 9223372036854775808) % 2 ^ 63 = m % 2 ^ 63 ^^^ 9223372036854775808 % 2 ^ 63 := Nat.xor_mod_two_pow
    have e3 : 9223372036854775808 / 2 ^ 63 = 1 := by decide
    have e4 : 9223372036854775808 % 2 ^ 63 = 0 := by decide
    rw [e3] at e1
    rw [e4, Nat.xor_zero] at e2
    split
    · rename_i hl
      have : m / 2 ^ 63 = 0 := by omega
      rw [this, Nat.zero_xor] at e1
      omega
    · rename_i hl
      have : m / 2 ^ 63 = 1 := by omega
      rw [this, Nat.xor_self] at e1
      omega
  rw [hx]
  split <;> omega

def intTo (n : Int) (j : Nat) : List UInt8 := (List.range j).map fun (i : Nat) => byt (uOf n / 2 ^ (8 * (7 - (i : Int))).toNat)

def intB (n : Int) : List UInt8 := intTo n 8

theorem intTo_succ (n : Int) (j : Nat) : intTo n (j + 1) = intTo n j ++ [byt (uOf n / 2 ^ (8 * (7 - (j : Int))).toNat)] := by
  simp [intTo, List.range_succ]

theorem intTo_length (n : Int) (j : Nat) : (intTo n j).length = j := by simp [intTo]

def textTo (s : List UInt8) : List UInt8 := s.flatMap fun c => if c = 0 then [0, 255] else [c]

def textB (s : List UInt8) : List UInt8 := textTo s ++ [0, 0]

theorem textTo_snoc (s : List UInt8) (c : UInt8) : textTo (s ++ [c]) = textTo s ++ if c = 0 then [0, 255] else [c] := by
  simp [textTo]

theorem textTo_length (s : List UInt8) : (textTo s).length ≤ 2 * s.length := by
  induction s with
  | nil => simp [textTo]
  | cons c s ih =>
    have e : textTo (c :: s) = (if c = 0 then [0, 255] else [c]) ++ textTo s := by simp [textTo]
    rw [e, List.length_append, List.length_cons]
    split <;> simp <;> omega

theorem take_snoc (s : ByteArray) (k : Nat) (h : k < s.size) : s.data.toList.take (k + 1) = s.data.toList.take k ++ [s[k]] := by
  rw [List.take_succ_eq_append_getElem (by simpa using h)]; rfl

/-- The bytes of an item. -/
def itemB (k n : Int) (s : ByteArray) : List UInt8 := if k = 1 then 1 :: intB n else 2 :: textB s.data.toList

def itemsB (xs : List It) : List UInt8 := xs.flatMap fun x => itemB x.k x.n x.s

def datB (k n : Int) (s : ByteArray) (xs : List It) : List UInt8 := if k = 3 then 3 :: byt xs.length :: itemsB xs else itemB k n s

theorem itemsB_snoc (xs : List It) (x : It) : itemsB (xs ++ [x]) = itemsB xs ++ itemB x.k x.n x.s := by simp [itemsB]

theorem itemB_length (k n : Int) (s : ByteArray) : (itemB k n s).length ≤ 2 * s.size + 9 := by
  have h : s.data.toList.length = s.size := rfl
  unfold itemB
  split
  · simp [intB, intTo_length]
  · have := textTo_length s.data.toList
    simp [textB]; omega

def I64 (n : Int) : Prop := -9223372036854775808 ≤ n ∧ n ≤ 9223372036854775807

/-- Each number of the items is an int. -/
def AllI (xs : List It) : Prop := ∀ x ∈ xs, I64 x.n

theorem item_kind {x : It} (h : x.ok = true) : (x.k = 1 ∨ x.k = 2) ∧ x.s.size ≤ 32 := by
  have := itemOk_true h
  rcases this.2 with ⟨h1, h2⟩ | ⟨h1, h2, h3⟩
  · refine ⟨.inl h1, ?_⟩
    rw [ByteArray.toList_eq] at h2
    have e : x.s.data.toList = [] := List.isEmpty_iff.1 h2
    have e2 : x.s.data.toList.length = x.s.size := rfl
    rw [← e2, e]
    exact Nat.zero_le _
  · exact ⟨.inr h1, by omega⟩

theorem itemsB_length (xs : List It) (h : ∀ x ∈ xs, x.ok = true) : (itemsB xs).length ≤ 73 * xs.length := by
  induction xs with
  | nil => simp [itemsB]
  | cons x xs ih =>
    have e : itemsB (x :: xs) = itemB x.k x.n x.s ++ itemsB xs := by simp [itemsB]
    have h1 := itemB_length x.k x.n x.s
    have h2 := (item_kind (h x (by simp))).2
    have h3 := ih (fun y hy => h y (by simp [hy]))
    rw [e, List.length_append, List.length_cons]
    omega
end Go.Proofs.Ytnnmigglcpkomaa.Dm
