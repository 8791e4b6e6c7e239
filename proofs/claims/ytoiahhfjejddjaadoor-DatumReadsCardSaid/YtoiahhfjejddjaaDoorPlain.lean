/- Plain definitions over bytes: the bytes of integers, texts, items and data. No condition. -/
import Derived.Test.YtoiahhfjejddjaaDoorBase
import Derived.Laws.Bits64
import Derived.Laws.BitsAllLaws
namespace Go.Proofs.YtoiahhfjejddjaaDoor
open Go.RowKit

/-- The byte of a number: what it leaves by 256. -/
def byt (x : Int) : UInt8 := UInt8.ofNat (x % 256).toNat
theorem byt_nat (x : Int) : ((byt x).toNat : Int) = x % 256 := by
  unfold byt
  have h : (x % 256).toNat < 256 := by omega
  rw [UInt8.toNat_ofNat', Nat.mod_eq_of_lt h]
  omega

def uOf (n : Int) : Int := bits BinOp.xor IntKind.u64 (IntKind.u64.wrap n) 9223372036854775808

def intTo (n : Int) (j : Nat) : List UInt8 := (List.range j).map fun (i : Nat) => byt (uOf n / 2 ^ (8 * (7 - (i : Int))).toNat)
def intB (n : Int) : List UInt8 := intTo n 8
theorem intTo_succ (n : Int) (j : Nat) : intTo n (j + 1) = intTo n j ++ [byt (uOf n / 2 ^ (8 * (7 - (j : Int))).toNat)] := by
  simp [intTo, List.range_succ]
theorem intTo_length (n : Int) (j : Nat) : (intTo n j).length = j := by simp [intTo]

def textTo (s : List UInt8) : List UInt8 := s.flatMap fun c => if c = 0 then [0, 255] else [c]
def textB (s : List UInt8) : List UInt8 := textTo s ++ [0, 0]
theorem textTo_snoc (s : List UInt8) (c : UInt8) : textTo (s ++ [c]) = textTo s ++ if c = 0 then [0, 255] else [c] := by
  simp [textTo]
theorem textTo_length (s : List UInt8) : (textTo s).length ≤ 2 * s.length := by
  induction s with
  | nil => simp [textTo]
  | cons c s ih =>
    have e : textTo (c :: s) = (if c = 0 then [0, 255] else [c]) ++ textTo s := by simp [textTo]
    rw [e, List.length_append, List.length_cons]
    split <;> simp <;> omega

theorem take_snoc (s : ByteArray) (k : Nat) (h : k < s.size) : s.data.toList.take (k + 1) = s.data.toList.take k ++ [s[k]] := by
  rw [List.take_succ_eq_append_getElem (by simpa using h)]; rfl

/-- The bytes of an item. -/
def itemB (k n : Int) (s : ByteArray) : List UInt8 := if k = 1 then 1 :: intB n else 2 :: textB s.data.toList
def itemsB (xs : List It) : List UInt8 := xs.flatMap fun x => itemB x.k x.n x.s
def datB (k n : Int) (s : ByteArray) (xs : List It) : List UInt8 := if k = 3 then 3 :: byt xs.length :: itemsB xs else itemB k n s
theorem itemsB_snoc (xs : List It) (x : It) : itemsB (xs ++ [x]) = itemsB xs ++ itemB x.k x.n x.s := by simp [itemsB]
theorem itemB_length (k n : Int) (s : ByteArray) : (itemB k n s).length ≤ 2 * s.size + 9 := by
  have h : s.data.toList.length = s.size := rfl
  unfold itemB
  split
  · simp [intB, intTo_length]
  · have := textTo_length s.data.toList
    simp [textB]; omega
end Go.Proofs.YtoiahhfjejddjaaDoor
