/- Texts of the same proof, one behind the other: DA, DB, DD, DE, DF. -/
import Derived.Test.YtijggofelepaaaaGreatDoorProg
import Derived.WalkKit
import Derived.WalkLawsBesides
import Derived.WalkSpells
import Derived.Outline
import Derived.Below
import Derived.Lib.Hide
import Derived.Laws.Bits64
import Derived.Laws.BitsAllLaws
import Derived.Deep.RegionHeld3
import Derived.RegionTactic
import Derived.ChangeAlike
import Derived.BigRegion
/- Data in plain words: which may be, where they lie, their bytes. No program's function is met here. -/
set_option maxRecDepth 100000
namespace Go.Proofs.YtijggofelepaaaaGreatDoor.Dm
open Go.RowKit

def itemOk (k n : Int) (s : ByteArray) (ll : Nat) : Bool :=
  decide (¬ 0 < ll ∧ (k = 1 ∧ s.toList.isEmpty = true ∨ k = 2 ∧ n = 0 ∧ (s.size : Int) ≤ 32))

theorem itemOk_true {k n : Int} {s : ByteArray} {ll : Nat} (h : itemOk k n s ll = true) : ¬ 0 < ll ∧ (k = 1 ∧ s.toList.isEmpty = true ∨ k = 2 ∧ n = 0 ∧ (s.size : Int) ≤ 32) := of_decide_eq_true h

theorem itemOk_false {k n : Int} {s : ByteArray} {ll : Nat} (h : itemOk k n s ll = false) : ¬ (¬ 0 < ll ∧ (k = 1 ∧ s.toList.isEmpty = true ∨ k = 2 ∧ n = 0 ∧ (s.size : Int) ≤ 32)) := of_decide_eq_false h

theorem itemOk_of {k n : Int} {s : ByteArray} {ll : Nat} (h : ¬ 0 < ll ∧ (k = 1 ∧ s.toList.isEmpty = true ∨ k = 2 ∧ n = 0 ∧ (s.size : Int) ≤ 32)) : itemOk k n s ll = true := decide_eq_true h

/-- A datum without its items: its kind, number, text, and where its list lies. -/
structure It where
  k : Int
  n : Int
  s : ByteArray
  a : Option Addr
  ll : Nat
  lc : Nat

def It.ok (x : It) : Bool := itemOk x.k x.n x.s x.ll

/-- The cells of the items of a list that lies at block b from off on. -/
def CellsOf (w : World) (b off : Nat) (xs : List It) : Prop :=
  ∀ j (h : j < xs.length), w.cell? ⟨b, off + j * 4, none⟩ = some (.int .i64 (xs[j]'h).k) ∧ w.cell? ⟨b, off + j * 4 + 1, none⟩ = some (.int .i64 (xs[j]'h).n) ∧
    w.cell? ⟨b, off + j * 4 + 2, none⟩ = some (.string (xs[j]'h).s) ∧ w.cell? ⟨b, off + j * 4 + 3, none⟩ = some (.slice (xs[j]'h).a (xs[j]'h).ll (xs[j]'h).lc)

/-- The items xs lie where the slice's pointer points. -/
def Sl (w : World) (a : Option Addr) (xs : List It) : Prop :=
  xs = [] ∨ ∃ b off, a = some ⟨b, off, none⟩ ∧ b < w.heap.size ∧ CellsOf w b off xs

theorem Sl.below {w w' : World} {a : Option Addr} {xs : List It} {B : Nat} (h : Sl w a xs) (hb : Below B w w') (hB : w.heap.size ≤ B) : Sl w' a xs := by
  rcases h with h | ⟨b, off, ha, hlt, hc⟩
  · exact .inl h
  · refine .inr ⟨b, off, ha, ?_, fun j hj => ?_⟩
    · have := hb.size; omega
    · obtain ⟨h0, h1, h2, h3⟩ := hc j hj
      exact ⟨(hb.cell (p := ⟨b, _, none⟩) (by show b < B; omega)).trans h0, (hb.cell (p := ⟨b, _, none⟩) (by show b < B; omega)).trans h1, (hb.cell (p := ⟨b, _, none⟩) (by show b < B; omega)).trans h2, (hb.cell (p := ⟨b, _, none⟩) (by show b < B; omega)).trans h3⟩

/-- The items lie in a block below B. -/
def SlB (B : Nat) (w : World) (a : Option Addr) (xs : List It) : Prop :=
  xs = [] ∨ ∃ b off, a = some ⟨b, off, none⟩ ∧ b < B ∧ CellsOf w b off xs

theorem SlB.below {w w' : World} {a : Option Addr} {xs : List It} {B : Nat} (h : SlB B w a xs) (hb : Below B w w') : SlB B w' a xs := by
  rcases h with h | ⟨b, off, ha, hlt, hc⟩
  · exact .inl h
  · refine .inr ⟨b, off, ha, hlt, fun j hj => ?_⟩
    obtain ⟨h0, h1, h2, h3⟩ := hc j hj
    exact ⟨(hb.cell (p := ⟨b, _, none⟩) hlt).trans h0, (hb.cell (p := ⟨b, _, none⟩) hlt).trans h1, (hb.cell (p := ⟨b, _, none⟩) hlt).trans h2, (hb.cell (p := ⟨b, _, none⟩) hlt).trans h3⟩

theorem Sl.slB {w : World} {a : Option Addr} {xs : List It} (h : Sl w a xs) : SlB w.heap.size w a xs := h

theorem SlB.at {B : Nat} {w : World} {a : Option Addr} {xs : List It} (h : SlB B w a xs) {j : Nat} (hj : j < xs.length) :
    ∃ b off, a = some ⟨b, off, none⟩ ∧ b < B ∧ CellsOf w b off xs := by
  rcases h with rfl | h
  · simp at hj
  · exact h

theorem Sl.at {w : World} {a : Option Addr} {xs : List It} (h : Sl w a xs) {j : Nat} (hj : j < xs.length) :
    ∃ b off, a = some ⟨b, off, none⟩ ∧ b < w.heap.size ∧ CellsOf w b off xs := by
  rcases h with rfl | h
  · simp at hj
  · exact h

def listOk (n : Int) (s : ByteArray) (xs : List It) : Bool :=
  decide (n = 0 ∧ s.toList.isEmpty = true ∧ (xs.length : Int) ≤ 8) && xs.all It.ok

def dOk (k n : Int) (s : ByteArray) (xs : List It) : Bool := if k = 3 then listOk n s xs else itemOk k n s xs.length

/-- A datum's own box, behind whatever was done above it. -/
theorem box_cells {w wr : World} {v0 v1 v2 v3 : Value} {T : TypeId} (hb : Below (w.heap.size + 1) (w.alloc (.cells #[v0, v1, v2, v3] T)) wr) :
    wr.cell? ⟨w.heap.size, 0, none⟩ = some v0 ∧ wr.cell? ⟨w.heap.size, 1, none⟩ = some v1 ∧ wr.cell? ⟨w.heap.size, 2, none⟩ = some v2 ∧ wr.cell? ⟨w.heap.size, 3, none⟩ = some v3 := by
  refine ⟨(hb.cell (p := ⟨w.heap.size, 0, none⟩) (by simp)).trans ?_, (hb.cell (p := ⟨w.heap.size, 1, none⟩) (by simp)).trans ?_, (hb.cell (p := ⟨w.heap.size, 2, none⟩) (by simp)).trans ?_, (hb.cell (p := ⟨w.heap.size, 3, none⟩) (by simp)).trans ?_⟩ <;>
    simp

theorem box_frozen {w wr : World} {v0 v1 v2 v3 : Value} {T : TypeId} (hb : Below (w.heap.size + 1) (w.alloc (.cells #[v0, v1, v2, v3] T)) wr) :
    wr.frozen? ⟨w.heap.size, 0, none⟩ = false ∧ wr.frozen? ⟨w.heap.size, 1, none⟩ = false ∧ wr.frozen? ⟨w.heap.size, 2, none⟩ = false ∧ wr.frozen? ⟨w.heap.size, 3, none⟩ = false := by
  refine ⟨(hb.frozen (p := ⟨w.heap.size, 0, none⟩) (by simp)).trans ?_, (hb.frozen (p := ⟨w.heap.size, 1, none⟩) (by simp)).trans ?_, (hb.frozen (p := ⟨w.heap.size, 2, none⟩) (by simp)).trans ?_, (hb.frozen (p := ⟨w.heap.size, 3, none⟩) (by simp)).trans ?_⟩ <;>
    simp

/-- What is below a world that was allocated in. -/
theorem below_al {w w' : World} (o : Obj) (h : Below (w.alloc o).heap.size (w.alloc o) w') : Below w.heap.size w w' :=
  ((Below.refl _ _).alloc (Nat.le_refl _) o).trans (h.mono (by simp))

theorem below_al2 {w w' : World} (o o2 : Obj) (h : Below ((w.alloc o).alloc o2).heap.size ((w.alloc o).alloc o2) w') : Below w.heap.size w w' :=
  below_al o (below_al o2 h)

/-- Two data's boxes. -/
theorem box_cells2 {w wr : World} {v0 v1 v2 v3 u0 u1 u2 u3 : Value} {T U : TypeId} (hb : Below (w.heap.size + 1 + 1) ((w.alloc (.cells #[v0, v1, v2, v3] T)).alloc (.cells #[u0, u1, u2, u3] U)) wr) :
    (wr.cell? ⟨w.heap.size, 0, none⟩ = some v0 ∧ wr.cell? ⟨w.heap.size, 1, none⟩ = some v1 ∧ wr.cell? ⟨w.heap.size, 2, none⟩ = some v2 ∧ wr.cell? ⟨w.heap.size, 3, none⟩ = some v3) ∧
    (wr.cell? ⟨w.heap.size + 1, 0, none⟩ = some u0 ∧ wr.cell? ⟨w.heap.size + 1, 1, none⟩ = some u1 ∧ wr.cell? ⟨w.heap.size + 1, 2, none⟩ = some u2 ∧ wr.cell? ⟨w.heap.size + 1, 3, none⟩ = some u3) := by
  refine ⟨box_cells (((Below.refl _ _).alloc (by simp) _).trans (hb.mono (by omega))), ?_⟩
  have := box_cells (w := w.alloc (.cells #[v0, v1, v2, v3] T)) (wr := wr) (v0 := u0) (v1 := u1) (v2 := u2) (v3 := u3) (T := U) (by simpa using hb)
  simpa using this

theorem below_then {B : Nat} {w wr w1 : World} (hb : Below B w wr) (hB : B ≤ w.heap.size) (h1 : Below wr.heap.size wr w1) : Below B w w1 :=
  hb.trans (h1.mono (by have := hb.size; omega))

theorem below_then_al {B : Nat} {w wr w1 : World} (hb : Below B w wr) (hB : B ≤ w.heap.size) (o : Obj) (h1 : Below (wr.alloc o).heap.size (wr.alloc o) w1) : Below B w w1 :=
  below_then hb hB (below_al o h1)

/-- The byte of a number: what it leaves by 256. -/
def byt (x : Int) : UInt8 := UInt8.ofNat (x % 256).toNat

theorem byt_nat (x : Int) : ((byt x).toNat : Int) = x % 256 := by
  unfold byt
  have h : (x % 256).toNat < 256 := by omega
  rw [UInt8.toNat_ofNat', Nat.mod_eq_of_lt h]
  omega

def uOf (n : Int) : Int := bits BinOp.xor IntKind.u64 (IntKind.u64.wrap n) 9223372036854775808

/-- An int's sign turned. -/
theorem uOf_eq (n : Int) (h0 : -9223372036854775808 ≤ n) (h1 : n ≤ 9223372036854775807) : uOf n = n + 9223372036854775808 := by
  unfold uOf
  rw [IntKind.wrap_u64]
  obtain ⟨m, hm⟩ : ∃ m : Nat, n % 18446744073709551616 = (m : Int) := ⟨(n % 18446744073709551616).toNat, by omega⟩
  have hmlt : m < 18446744073709551616 := by omega
  rw [hm]
  have := bits_xor_u64_nat m 9223372036854775808 hmlt (by decide)
  rw [show ((9223372036854775808 : Int)) = ((9223372036854775808 : Nat) : Int) from rfl, this]
  have hx : m ^^^ 9223372036854775808 = if m < 9223372036854775808 then m + 9223372036854775808 else m - 9223372036854775808 := by
    have e1 : (m ^^^ 9223372036854775808) / 2 ^ 63 = m / 2 ^ 63 ^^^ 9223372036854775808 / 2 ^ 63 := Nat.xor_div_two_pow
    have e2 : (m ^^^ 9223372036854775808) % 2 ^ 63 = m % 2 ^ 63 ^^^ 9223372036854775808 % 2 ^ 63 := Nat.xor_mod_two_pow
    have e3 : 9223372036854775808 / 2 ^ 63 = 1 := by decide
    have e4 : 9223372036854775808 % 2 ^ 63 = 0 := by decide
    rw [e3] at e1
    rw [e4, Nat.xor_zero] at e2
    split
    · rename_i hl
      have : m / 2 ^ 63 = 0 := by omega
      rw [this, Nat.zero_xor] at e1
      omega
    · rename_i hl
      have : m / 2 ^ 63 = 1 := by omega
      rw [this, Nat.xor_self] at e1
      omega
  rw [hx]
  split <;> omega

def intTo (n : Int) (j : Nat) : List UInt8 := (List.range j).map fun (i : Nat) => byt (uOf n / 2 ^ (8 * (7 - (i : Int))).toNat)

def intB (n : Int) : List UInt8 := intTo n 8

theorem intTo_succ (n : Int) (j : Nat) : intTo n (j + 1) = intTo n j ++ [byt (uOf n / 2 ^ (8 * (7 - (j : Int))).toNat)] := by
  simp [intTo, List.range_succ]

theorem intTo_length (n : Int) (j : Nat) : (intTo n j).length = j := by simp [intTo]

def textTo (s : List UInt8) : List UInt8 := s.flatMap fun c => if c = 0 then [0, 255] else [c]

def textB (s : List UInt8) : List UInt8 := textTo s ++ [0, 0]

theorem textTo_snoc (s : List UInt8) (c : UInt8) : textTo (s ++ [c]) = textTo s ++ if c = 0 then [0, 255] else [c] := by
  simp [textTo]

theorem textTo_length (s : List UInt8) : (textTo s).length ≤ 2 * s.length := by
  induction s with
  | nil => simp [textTo]
  | cons c s ih =>
    have e : textTo (c :: s) = (if c = 0 then [0, 255] else [c]) ++ textTo s := by simp [textTo]
    rw [e, List.length_append, List.length_cons]
    split <;> simp <;> omega

theorem take_snoc (s : ByteArray) (k : Nat) (h : k < s.size) : s.data.toList.take (k + 1) = s.data.toList.take k ++ [s[k]] := by
  rw [List.take_succ_eq_append_getElem (by simpa using h)]; rfl

/-- The bytes of an item. -/
def itemB (k n : Int) (s : ByteArray) : List UInt8 := if k = 1 then 1 :: intB n else 2 :: textB s.data.toList

def itemsB (xs : List It) : List UInt8 := xs.flatMap fun x => itemB x.k x.n x.s

def datB (k n : Int) (s : ByteArray) (xs : List It) : List UInt8 := if k = 3 then 3 :: byt xs.length :: itemsB xs else itemB k n s

theorem itemsB_snoc (xs : List It) (x : It) : itemsB (xs ++ [x]) = itemsB xs ++ itemB x.k x.n x.s := by simp [itemsB]

theorem itemB_length (k n : Int) (s : ByteArray) : (itemB k n s).length ≤ 2 * s.size + 9 := by
  have h : s.data.toList.length = s.size := rfl
  unfold itemB
  split
  · simp [intB, intTo_length]
  · have := textTo_length s.data.toList
    simp [textB]; omega

def I64 (n : Int) : Prop := -9223372036854775808 ≤ n ∧ n ≤ 9223372036854775807

/-- Each number of the items is an int. -/
def AllI (xs : List It) : Prop := ∀ x ∈ xs, I64 x.n

theorem item_kind {x : It} (h : x.ok = true) : (x.k = 1 ∨ x.k = 2) ∧ x.s.size ≤ 32 := by
  have := itemOk_true h
  rcases this.2 with ⟨h1, h2⟩ | ⟨h1, h2, h3⟩
  · refine ⟨.inl h1, ?_⟩
    rw [ByteArray.toList_eq] at h2
    have e : x.s.data.toList = [] := List.isEmpty_iff.1 h2
    have e2 : x.s.data.toList.length = x.s.size := rfl
    rw [← e2, e]
    exact Nat.zero_le _
  · exact ⟨.inr h1, by omega⟩

theorem itemsB_length (xs : List It) (h : ∀ x ∈ xs, x.ok = true) : (itemsB xs).length ≤ 73 * xs.length := by
  induction xs with
  | nil => simp [itemsB]
  | cons x xs ih =>
    have e : itemsB (x :: xs) = itemB x.k x.n x.s ++ itemsB xs := by simp [itemsB]
    have h1 := itemB_length x.k x.n x.s
    have h2 := (item_kind (h x (by simp))).2
    have h3 := ih (fun y hy => h y (by simp [hy]))
    rw [e, List.length_append, List.length_cons]
    omega
end Go.Proofs.YtijggofelepaaaaGreatDoor.Dm

/- The contracts of the reference's May. -/
set_option maxRecDepth 100000
namespace Go.Proofs.YtijggofelepaaaaGreatDoor.Dm
open Go.RowKit

set_option maxHeartbeats 400000 in
theorem simple_any (k n : Int) (s : ByteArray) (a : Option Addr) (ll lc : Nat) (w : World) :
    Calls Tryz.prog 165 #[.agg #[.int .i64 k, .int .i64 n, .string s, .slice a ll lc]] w fun e w' => e = .returned (.bool (itemOk k n s ll)) ∧ Below w.heap.size w w' := by
  go_enter Tryz.func165, Tryz.ntmps165
  go_wp2
  all_goals
    go_ret
    refine ⟨congrArg (fun b => Ending.returned (.bool b)) ?_, (Below.refl _ _).alloc (Nat.le_refl _) _⟩
    rw [Bool.eq_iff_iff]
    simp only [itemOk, decide_eq_true_eq]
    grind

theorem listOk_parts {n : Int} {s : ByteArray} {xs : List It} (h : listOk n s xs = true) : n = 0 ∧ s.toList.isEmpty = true ∧ (xs.length : Int) ≤ 8 ∧ ∀ x ∈ xs, x.ok = true := by
  simp only [listOk, Bool.and_eq_true, decide_eq_true_eq, List.all_eq_true] at h
  exact ⟨h.1.1, h.1.2.1, h.1.2.2, h.2⟩

/-- Where no item fails, the list does for another reason. -/
theorem listOk_first {n : Int} {s : ByteArray} {xs : List It} (h : listOk n s xs = false) (hn : n = 0) (hs : s.toList.isEmpty = true) (hl : (xs.length : Int) ≤ 8) : ¬ ∀ i (hi : i < xs.length), (xs[i]'hi).ok = true := by
  intro hall
  have : listOk n s xs = true := by
    simp only [listOk, Bool.and_eq_true, decide_eq_true_eq, List.all_eq_true]
    refine ⟨⟨hn, hs, hl⟩, fun x hx => ?_⟩
    obtain ⟨i, hi, rfl⟩ := List.getElem_of_mem hx
    exact hall i hi
  simp [this] at h

theorem simple_ok (k n : Int) (s : ByteArray) (a : Option Addr) (ll lc : Nat) (w : World) (h : itemOk k n s ll = true) :
    Calls Tryz.prog 165 #[.agg #[.int .i64 k, .int .i64 n, .string s, .slice a ll lc]] w fun e w' => e = .returned (.bool true) ∧ Below w.heap.size w w' := by
  have := simple_any k n s a ll lc w
  rwa [h] at this

theorem simple_no (k n : Int) (s : ByteArray) (a : Option Addr) (ll lc : Nat) (w : World) (h : itemOk k n s ll = false) :
    Calls Tryz.prog 165 #[.agg #[.int .i64 k, .int .i64 n, .string s, .slice a ll lc]] w fun e w' => e = .returned (.bool false) ∧ Below w.heap.size w w' := by
  have := simple_any k n s a ll lc w
  rwa [h] at this

set_option maxHeartbeats 400000 in
theorem may_ok (k n : Int) (s : ByteArray) (a : Option Addr) (xs : List It) (lc : Nat) (w : World) (hS : Sl w a xs) (h : dOk k n s xs = true) :
    Calls Tryz.prog 120 #[.agg #[.int .i64 k, .int .i64 n, .string s, .slice a xs.length lc]] w fun e w' => e = .returned (.bool true) ∧ Below w.heap.size w w' := by
  have HS := Lib.hid hS; clear hS
  by_cases hk : k = 3
  · subst hk
    rw [show dOk 3 n s xs = listOk n s xs from by simp [dOk]] at h
    obtain ⟨rfl, hs, hlen, hall⟩ := listOk_parts h
    have HA := Lib.hid hall; clear hall h
    obtain ⟨ll, hll⟩ : ∃ ll, ll = xs.length := ⟨_, rfl⟩
    rw [← hll] at hlen ⊢
    have HL := Lib.hid hll; clear hll
    go_enter Tryz.func120, Tryz.ntmps120
    go_wp2
    go_loopw [3] (fun i wr => ∃ j : Nat, j ≤ ll ∧ i = .int .i64 j ∧ Below (w.heap.size + 1) (w.alloc (.cells #[.int .i64 3, .int .i64 0, .string s, .slice a ll lc] 130)) wr) (fun i _ => ll - (intOf i).toNat)
    case atStart => exact ⟨0, Nat.zero_le _, rfl, Below.refl _ _⟩
    case round =>
      obtain ⟨j, hj, rfl, hb⟩ := hrel
      obtain ⟨d0, d1, d2, d3⟩ := box_cells hb
      by_cases hlt : j < ll
      · have hlt' : j < xs.length := by rw [← HL.out]; exact hlt
        obtain ⟨b, off, rfl, hbw, hc⟩ := ((HS.out.below ((Below.refl _ _).alloc (Nat.le_refl _) _) (Nat.le_refl _)).below hb (by simp)).at hlt'
        obtain ⟨c0, c1, c2, c3⟩ := hc j hlt'
        clear hc
        have hok : (xs[j]'hlt').ok = true := HA.out _ (List.getElem_mem _)
        have HO := Lib.hid hok; clear hok
        go_wp2_with (go_at_call 165; refine (simple_ok _ _ _ _ _ _ _ HO.out).mono ?_)
        rintro e w1 ⟨rfl, hb1⟩
        go_wp2
        go_roundw
        case rel => exact ⟨j + 1, by omega, by go_num, below_then hb (by simp) hb1⟩
        case measure => simp [intOf]; omega
      · go_wp2
        go_ret
        exact ⟨rfl, below_al _ (by simpa using hb)⟩
  · have HF := Lib.hid h; clear h
    go_enter Tryz.func120, Tryz.ntmps120
    go_wp2_with (go_at_call 165; refine (simple_ok _ _ _ _ _ _ _ (by have := HF.out; simpa [dOk, hk] using this)).mono ?_)
    rintro e w1 ⟨rfl, hb1⟩
    go_wp2
    go_ret
    exact ⟨rfl, below_al _ hb1⟩

set_option maxHeartbeats 800000 in
theorem may_no (k n : Int) (s : ByteArray) (a : Option Addr) (xs : List It) (lc : Nat) (w : World) (hS : Sl w a xs) (h : dOk k n s xs = false) :
    Calls Tryz.prog 120 #[.agg #[.int .i64 k, .int .i64 n, .string s, .slice a xs.length lc]] w fun e w' => e = .returned (.bool false) ∧ Below w.heap.size w w' := by
  have HS := Lib.hid hS; clear hS
  by_cases hk : k = 3
  · subst hk
    rw [show dOk 3 n s xs = listOk n s xs from by simp [dOk]] at h
    have HF := Lib.hid h; clear h
    obtain ⟨ll, hll⟩ : ∃ ll, ll = xs.length := ⟨_, rfl⟩
    rw [← hll]
    have HL := Lib.hid hll; clear hll
    by_cases hn : n = 0
    · subst hn
      cases hs : s.toList.isEmpty
      · go_enter Tryz.func120, Tryz.ntmps120
        go_wp2
        go_ret
        exact ⟨rfl, (Below.refl _ _).alloc (Nat.le_refl _) _⟩
      · by_cases hl : (ll : Int) ≤ 8
        · have hfst := listOk_first HF.out rfl hs (by rw [← HL.out]; exact hl)
          have HFS := Lib.hid hfst; clear hfst
          go_enter Tryz.func120, Tryz.ntmps120
          go_wp2
          go_loopw [3] (fun i wr => ∃ j : Nat, j ≤ ll ∧ i = .int .i64 j ∧ Below (w.heap.size + 1) (w.alloc (.cells #[.int .i64 3, .int .i64 0, .string s, .slice a ll lc] 130)) wr ∧ Hid (∀ i (hi : i < xs.length), i < j → (xs[i]'hi).ok = true)) (fun i _ => ll - (intOf i).toNat)
          case atStart => exact ⟨0, Nat.zero_le _, rfl, Below.refl _ _, Lib.hid (fun _ _ h => by omega)⟩
          case round =>
            obtain ⟨j, hj, rfl, hb, HP⟩ := hrel
            obtain ⟨d0, d1, d2, d3⟩ := box_cells hb
            by_cases hlt : j < ll
            · have hlt' : j < xs.length := by rw [← HL.out]; exact hlt
              obtain ⟨b, off, rfl, hbw, hc⟩ := ((HS.out.below ((Below.refl _ _).alloc (Nat.le_refl _) _) (Nat.le_refl _)).below hb (by simp)).at hlt'
              obtain ⟨c0, c1, c2, c3⟩ := hc j hlt'
              clear hc
              cases hok : (xs[j]'hlt').ok
              · have HO := Lib.hid hok; clear hok
                go_wp2_with (go_at_call 165; refine (simple_no _ _ _ _ _ _ _ HO.out).mono ?_)
                rintro e w1 ⟨rfl, hb1⟩
                go_wp2
                go_ret
                exact ⟨rfl, below_al _ (by simpa using below_then hb (by simp) hb1)⟩
              · have HO := Lib.hid hok; clear hok
                go_wp2_with (go_at_call 165; refine (simple_ok _ _ _ _ _ _ _ HO.out).mono ?_)
                rintro e w1 ⟨rfl, hb1⟩
                go_wp2
                go_roundw
                case rel =>
                  refine ⟨j + 1, by omega, by go_num, below_then hb (by simp) hb1, Lib.hid (fun i hi hij => ?_)⟩
                  by_cases hij' : i < j
                  · exact HP.out i hi hij'
                  · obtain rfl : i = j := by omega
                    exact HO.out
                case measure => simp [intOf]; omega
            · exfalso
              exact HFS.out (fun i hi => HP.out i hi (by have := HL.out; omega))
        · go_enter Tryz.func120, Tryz.ntmps120
          go_wp2
          go_ret
          exact ⟨rfl, (Below.refl _ _).alloc (Nat.le_refl _) _⟩
    · go_enter Tryz.func120, Tryz.ntmps120
      go_wp2
      go_ret
      exact ⟨rfl, (Below.refl _ _).alloc (Nat.le_refl _) _⟩
  · have HF := Lib.hid h; clear h
    go_enter Tryz.func120, Tryz.ntmps120
    go_wp2_with (go_at_call 165; refine (simple_no _ _ _ _ _ _ _ (by have := HF.out; simpa [dOk, hk] using this)).mono ?_)
    rintro e w1 ⟨rfl, hb1⟩
    go_wp2
    go_ret
    exact ⟨rfl, below_al _ hb1⟩
end Go.Proofs.YtijggofelepaaaaGreatDoor.Dm

/- The order of data's bytes: two items' bytes part, or the items are the same; a datum's bytes are those of one datum alone. No program's function is met here. -/
set_option maxRecDepth 100000
namespace Go.Proofs.YtijggofelepaaaaGreatDoor.Dm
open Go Go.RowKit

def ordR (k n : Int) (s : ByteArray) (k' n' : Int) (s' : ByteArray) : Int :=
  if k ≠ k' then (if k < k' then -1 else 1) else if n < n' ∨ n = n' ∧ Op.bytesLess s.toList s'.toList = true then -1 else if n = n' ∧ (s.toList == s'.toList) = true then 0 else 1

/-- Two lists of bytes part at some place, the first one's byte the lesser. -/
def Parts (a b : List UInt8) : Prop := ∃ (p : List UInt8) (x y : UInt8) (a' b' : List UInt8), a = p ++ x :: a' ∧ b = p ++ y :: b' ∧ x < y

/-- The bytes of a number, the highest first. -/
def beL : Nat → Nat → List UInt8
  | 0, _ => []
  | k + 1, u => byt ((u / 256 ^ k : Nat) : Int) :: beL k u

/-- The same items, wherever they lie. -/
def SameIt (x y : It) : Prop := x.k = y.k ∧ x.n = y.n ∧ x.s = y.s
def SameIts : List It → List It → Prop
  | [], [] => True
  | x :: l, y :: m => SameIt x y ∧ SameIts l m
  | _, _ => False
end Go.Proofs.YtijggofelepaaaaGreatDoor.Dm

/- Data and entries by content; the document's lists of entries in plain words. No program's function is met here. -/
set_option maxRecDepth 100000
namespace Go.Proofs.YtijggofelepaaaaGreatDoor.Dm
open Go Go.RowKit

/-- An item by content: its kind, number, text, and how long a list it has. -/
abbrev Ic := Int × Int × ByteArray × Nat
def itC (x : It) : Ic := (x.k, x.n, x.s, x.ll)
/-- A datum by content. -/
abbrev Dt := Int × Int × ByteArray × List Ic
/-- An entry by content. -/
abbrev Et := Dt × Int
def icIt (c : Ic) : It := ⟨c.1, c.2.1, c.2.2.1, none, c.2.2.2, 0⟩
def Dt.ok (d : Dt) : Bool := dOk d.1 d.2.1 d.2.2.1 (d.2.2.2.map icIt)
def Dt.kb (d : Dt) : List UInt8 := datB d.1 d.2.1 d.2.2.1 (d.2.2.2.map icIt)
/-- The numbers are ints. -/
def Dt.nums (d : Dt) : Prop := I64 d.2.1 ∧ ∀ c, c ∈ d.2.2.2 → I64 c.2.1
theorem itemsB_map (xs : List It) : itemsB ((xs.map itC).map icIt) = itemsB xs := by
  induction xs with
  | nil => rfl
  | cons x l ih =>
    have e : ∀ (z : It) (l : List It), itemsB (z :: l) = itemB z.k z.n z.s ++ itemsB l := fun z l => by simp [itemsB]
    rw [List.map_cons, List.map_cons, e, e, ih]; rfl
theorem all_map (xs : List It) : ((xs.map itC).map icIt).all It.ok = xs.all It.ok := by
  induction xs with
  | nil => rfl
  | cons x l ih => rw [List.map_cons, List.map_cons, List.all_cons, List.all_cons, ih]; rfl
theorem dt_ok (k n : Int) (s : ByteArray) (xs : List It) : Dt.ok (k, n, s, xs.map itC) = dOk k n s xs := by
  unfold Dt.ok dOk
  by_cases hk : k = 3
  · simp only [if_pos hk]
    unfold listOk
    rw [all_map, List.length_map, List.length_map]
  · simp only [if_neg hk, List.length_map]
theorem dt_kb (k n : Int) (s : ByteArray) (xs : List It) : Dt.kb (k, n, s, xs.map itC) = datB k n s xs := by
  unfold Dt.kb datB
  by_cases hk : k = 3
  · simp only [if_pos hk, List.length_map, itemsB_map]
  · simp only [if_neg hk]
/-! ### Lists of entries -/
instance decBytes : DecidableEq ByteArray := fun a b => decidable_of_iff (a.data = b.data) ⟨fun h => ByteArray.ext h, fun h => by rw [h]⟩
instance decIc : DecidableEq Ic := inferInstanceAs (DecidableEq (Int × Int × ByteArray × Nat))
instance decDt : DecidableEq Dt := inferInstanceAs (DecidableEq (Int × Int × ByteArray × List Ic))
instance decEt : DecidableEq Et := inferInstanceAs (DecidableEq (Dt × Int))
instance decMemE (e : Et) (l : List Et) : Decidable (e ∈ l) := decidable_of_iff (∃ x, x ∈ l ∧ x = e) ⟨fun ⟨_, h, e⟩ => e ▸ h, fun h => ⟨e, h, rfl⟩⟩
def aheadE (a b : Et) : Bool := Op.bytesLess a.1.kb b.1.kb || a.1.kb == b.1.kb && decide (a.2 < b.2)
def withE (l : List Et) (e : Et) : List Et := l.takeWhile (fun x => !aheadE e x) ++ e :: l.dropWhile (fun x => !aheadE e x)
def withoutE (l : List Et) (e : Et) : List Et := l.filter fun x => decide (x ≠ e)
def findE (l : List Et) (d : Dt) : List Int := (l.filter fun x => decide (x.1 = d)).map (·.2)
def mayE (e : Et) : Bool := decide (0 ≤ e.2 ∧ e.2 < 16777216) && e.1.ok
def refusedE (kinds : List Int) (e : Et) : Int := if mayE e = true then (if e.1.1 ∈ kinds then 0 else 10) else 1
end Go.Proofs.YtijggofelepaaaaGreatDoor.Dm

/- The contract of the reference's Same: whether two data are alike; other memory stands. -/
set_option maxRecDepth 100000
namespace Go.Proofs.YtijggofelepaaaaGreatDoor.Dm
open Go Go.RowKit

theorem str_ne {s t : ByteArray} (h : s ≠ t) : (s.toList != t.toList) = true := by
  rw [bne_iff_ne]
  intro e
  rw [ByteArray.toList_eq, ByteArray.toList_eq] at e
  exact h (by apply ByteArray.ext; exact Array.toList_inj.1 e)

set_option maxHeartbeats 800000 in
theorem same_no (k n : Int) (s : ByteArray) (a : Option Addr) (ll lc : Nat) (k' n' : Int) (s' : ByteArray) (a' : Option Addr) (ll' lc' : Nat) (w : World) (h : k ≠ k' ∨ n ≠ n' ∨ s ≠ s' ∨ ll ≠ ll') :
    Calls Tryz.prog 74 #[.agg #[.int .i64 k, .int .i64 n, .string s, .slice a ll lc], .agg #[.int .i64 k', .int .i64 n', .string s', .slice a' ll' lc']] w fun e w' => e = .returned (.bool false) ∧ Below w.heap.size w w' := by
  by_cases h1 : k = k'
  · subst h1
    by_cases h2 : n = n'
    · subst h2
      by_cases h3 : s = s'
      · subst h3
        have hl : ll ≠ ll' := by simpa using h
        have hb : (((ll : Int)) != (ll' : Int)) = true := by rw [bne_iff_ne]; omega
        clear h
        go_enter Tryz.func74, Tryz.ntmps74
        go_wp2
        go_ret
        exact ⟨rfl, ((Below.refl _ _).alloc (Nat.le_refl _) _).alloc (by simp) _⟩
      · have hb := str_ne h3
        have hb2 : (s.toList == s'.toList) = false := by simpa [bne] using hb
        clear h h3
        go_enter Tryz.func74, Tryz.ntmps74
        go_wp2
        go_ret
        exact ⟨rfl, ((Below.refl _ _).alloc (Nat.le_refl _) _).alloc (by simp) _⟩
    · have hb : (n != n') = true := by rw [bne_iff_ne]; exact h2
      clear h
      go_enter Tryz.func74, Tryz.ntmps74
      go_wp2
      go_ret
      exact ⟨rfl, ((Below.refl _ _).alloc (Nat.le_refl _) _).alloc (by simp) _⟩
  · have hb : (k != k') = true := by rw [bne_iff_ne]; exact h1
    clear h
    go_enter Tryz.func74, Tryz.ntmps74
    go_wp2
    go_ret
    exact ⟨rfl, ((Below.refl _ _).alloc (Nat.le_refl _) _).alloc (by simp) _⟩

set_option maxHeartbeats 3200000 in
theorem same_lists (k n : Int) (s : ByteArray) (a : Option Addr) (xs : List It) (lc : Nat) (a' : Option Addr) (ys : List It) (lc' : Nat) (w : World) (hS : Sl w a xs) (hS' : Sl w a' ys) (hlen : ys.length = xs.length) (h8 : xs.length ≤ 8)
    (h0 : ∀ x, x ∈ xs → x.ll = 0) (h0' : ∀ x, x ∈ ys → x.ll = 0) :
    Calls Tryz.prog 74 #[.agg #[.int .i64 k, .int .i64 n, .string s, .slice a xs.length lc], .agg #[.int .i64 k, .int .i64 n, .string s, .slice a' ys.length lc']] w fun e w' => e = .returned (.bool (decide (xs.map itC = ys.map itC))) ∧ Below w.heap.size w w' := by
  rw [hlen]
  obtain ⟨R, hR⟩ : ∃ R, R = decide (xs.map itC = ys.map itC) := ⟨_, rfl⟩
  rw [← hR]
  have HS := Lib.hid hS; have HS' := Lib.hid hS'; have HC := Lib.hid h0; have HC' := Lib.hid h0'; have HLEN := Lib.hid hlen; have HR := Lib.hid hR
  obtain ⟨ll, hll⟩ : ∃ ll, ll = xs.length := ⟨_, rfl⟩
  rw [← hll] at h8 ⊢
  have HL := Lib.hid hll
  clear hS hS' h0 h0' hlen hll hR
  go_enter Tryz.func74, Tryz.ntmps74
  go_wp2
  go_loopw [5] (fun i wr => ∃ j : Nat, j ≤ ll ∧ i = .int .i64 j ∧ Below (w.heap.size + 1 + 1) ((w.alloc (.cells #[.int .i64 k, .int .i64 n, .string s, .slice a ll lc] 130)).alloc (.cells #[.int .i64 k, .int .i64 n, .string s, .slice a' ll lc'] 130)) wr ∧ Hid ((xs.map itC).take j = (ys.map itC).take j)) (fun i _ => ll - (intOf i).toNat)
  case atStart => exact ⟨0, Nat.zero_le _, rfl, Below.refl _ _, Lib.hid rfl⟩
  case round =>
    obtain ⟨j, hj, rfl, hb, HP⟩ := hrel
    obtain ⟨⟨c0, c1, c2, c3⟩, d0, d1, d2, d3⟩ := box_cells2 hb
    have HBW : Hid (Below w.heap.size w wr) := Lib.hid (below_al2 _ _ (by simpa using hb))
    have hsz := hb.size
    simp at hsz
    have HB := Lib.hid hb; clear hb
    by_cases hlt : j < ll
    · have hlt' : j < xs.length := by rw [← HL.out]; exact hlt
      have hlt2 : j < ys.length := by rw [HLEN.out]; exact hlt'
      obtain ⟨b, off, rfl, hbw, hx⟩ := (HS.out.below HBW.out (Nat.le_refl _)).at hlt'
      obtain ⟨b', off', rfl, hbw', hy⟩ := (HS'.out.below HBW.out (Nat.le_refl _)).at hlt2
      obtain ⟨x0, x1, x2, x3⟩ := hx j hlt'
      obtain ⟨y0, y1, y2, y3⟩ := hy j hlt2
      rw [HC.out _ (List.getElem_mem hlt')] at x3
      rw [HC'.out _ (List.getElem_mem hlt2)] at y3
      obtain ⟨X, hX⟩ : ∃ X, X = xs[j]'hlt' := ⟨_, rfl⟩
      obtain ⟨Y, hY⟩ : ∃ Y, Y = ys[j]'hlt2 := ⟨_, rfl⟩
      have hX0 : X.ll = 0 := by rw [hX]; exact HC.out _ (List.getElem_mem hlt')
      have hY0 : Y.ll = 0 := by rw [hY]; exact HC'.out _ (List.getElem_mem hlt2)
      rw [← hX] at x0 x1 x2 x3
      rw [← hY] at y0 y1 y2 y3
      have HX : Hid ((xs.map itC)[j]'(by rw [List.length_map]; exact hlt') = itC X) := Lib.hid (by rw [List.getElem_map, hX])
      have HY : Hid ((ys.map itC)[j]'(by rw [List.length_map]; exact hlt2) = itC Y) := Lib.hid (by rw [List.getElem_map, hY])
      obtain ⟨xk, xn, xt, xa, xl, xc⟩ := X
      obtain ⟨yk, yn, yt, ya, yl, yc⟩ := Y
      simp only at x0 x1 x2 x3 y0 y1 y2 y3 hX0 hY0
      subst hX0 hY0
      clear hx hy hX hY
      have hji : (j : Int) < (ll : Int) := by omega
      have hj0 : (0 : Int) ≤ (j : Int) := by omega
      have hz0 : w.heap.size < wr.heap.size := by omega
      have hz1 : w.heap.size + 1 < wr.heap.size := by omega
      have no : itC ⟨xk, xn, xt, xa, 0, xc⟩ ≠ itC ⟨yk, yn, yt, ya, 0, yc⟩ → R = false := fun h => by
        rw [HR.out, decide_eq_false_iff_not]
        intro e
        refine h ?_
        rw [← HX.out, ← HY.out]
        simp only [e]
      have NO := Lib.hid no; clear no
      by_cases hk : xk = yk
      · subst hk
        by_cases hn : xn = yn
        · subst hn
          by_cases ht : xt = yt
          · subst ht
            have HN : Hid ((xs.map itC).take (j + 1) = (ys.map itC).take (j + 1)) := Lib.hid (by
              rw [List.take_add_one, List.take_add_one, HP.out, List.getElem?_eq_getElem (by rw [List.length_map]; exact hlt'), List.getElem?_eq_getElem (by rw [List.length_map]; exact hlt2), HX.out, HY.out]
              rfl)
            go_wp2
            go_region
            all_goals
              go_wp2
            all_goals
              go_roundw
              case rel => exact ⟨j + 1, by omega, by go_num, ((HB.out.alloc (by omega) _).alloc (by rw [World.size_alloc]; omega) _).drew, HN⟩
              case measure => simp [intOf]; omega
          · have hb1 := str_ne ht
            have hb2 : (xt.toList == yt.toList) = false := by simpa [bne] using hb1
            have HF : Hid (R = false) := Lib.hid (NO.out (fun e => ht (by simp only [itC, Prod.mk.injEq] at e; exact e.2.2.1)))
            clear ht
            go_wp2
            go_region
            all_goals
              go_wp2
            all_goals
              go_ret
              exact ⟨congrArg (fun b => Ending.returned (.bool b)) HF.out.symm, HBW.out.trans (((Below.refl _ _).alloc (Nat.le_refl _) _).alloc (by rw [World.size_alloc]; omega) _ |>.drew |>.mono (by have := HBW.out.size; omega))⟩
        · have hb1 : (xn != yn) = true := by rw [bne_iff_ne]; exact hn
          have HF : Hid (R = false) := Lib.hid (NO.out (fun e => hn (by simp only [itC, Prod.mk.injEq] at e; exact e.2.1)))
          go_wp2
          go_region
          all_goals
            go_wp2
          all_goals
            go_ret
            exact ⟨congrArg (fun b => Ending.returned (.bool b)) HF.out.symm, HBW.out.trans (((Below.refl _ _).alloc (Nat.le_refl _) _).alloc (by rw [World.size_alloc]; omega) _ |>.drew |>.mono (by have := HBW.out.size; omega))⟩
      · have hb1 : (xk != yk) = true := by rw [bne_iff_ne]; exact hk
        have HF : Hid (R = false) := Lib.hid (NO.out (fun e => hk (by simp only [itC, Prod.mk.injEq] at e; exact e.1)))
        go_wp2
        go_region
        all_goals
          go_wp2
        all_goals
          go_ret
          exact ⟨congrArg (fun b => Ending.returned (.bool b)) HF.out.symm, HBW.out.trans (((Below.refl _ _).alloc (Nat.le_refl _) _).alloc (by rw [World.size_alloc]; omega) _ |>.drew |>.mono (by have := HBW.out.size; omega))⟩
    · have HT : Hid (R = true) := Lib.hid (by
        rw [HR.out, decide_eq_true_eq]
        have h := HP.out
        rw [List.take_of_length_le (by rw [List.length_map]; have := HL.out; omega), List.take_of_length_le (by rw [List.length_map]; have := HL.out; have := HLEN.out; omega)] at h
        exact h)
      go_wp2
      go_ret
      exact ⟨congrArg (fun b => Ending.returned (.bool b)) HT.out.symm, HBW.out⟩

/-- Same, of any two data whose items have no lists. -/
theorem same_any (k n : Int) (s : ByteArray) (a : Option Addr) (xs : List It) (lc : Nat) (k' n' : Int) (s' : ByteArray) (a' : Option Addr) (ys : List It) (lc' : Nat) (w : World) (hS : Sl w a xs) (hS' : Sl w a' ys) (h8 : xs.length ≤ 8)
    (h0 : ∀ x, x ∈ xs → x.ll = 0) (h0' : ∀ x, x ∈ ys → x.ll = 0) :
    Calls Tryz.prog 74 #[.agg #[.int .i64 k, .int .i64 n, .string s, .slice a xs.length lc], .agg #[.int .i64 k', .int .i64 n', .string s', .slice a' ys.length lc']] w fun e w' => e = .returned (.bool (decide (((k, n, s, xs.map itC) : Dt) = (k', n', s', ys.map itC)))) ∧ Below w.heap.size w w' := by
  by_cases h : k ≠ k' ∨ n ≠ n' ∨ s ≠ s' ∨ xs.length ≠ ys.length
  · have e : decide (((k, n, s, xs.map itC) : Dt) = (k', n', s', ys.map itC)) = false := by
      rw [decide_eq_false_iff_not]
      intro e
      simp only [Prod.mk.injEq] at e
      obtain ⟨e1, e2, e3, e4⟩ := e
      have e5 := congrArg List.length e4
      simp only [List.length_map] at e5
      simp_all
    rw [e]
    exact same_no k n s a _ lc k' n' s' a' _ lc' w h
  · have e1 : k = k' := by false_or_by_contra; exact h (.inl ‹_›)
    have e2 : n = n' := by false_or_by_contra; exact h (.inr (.inl ‹_›))
    have e3 : s = s' := by false_or_by_contra; exact h (.inr (.inr (.inl ‹_›)))
    have e4 : xs.length = ys.length := by false_or_by_contra; exact h (.inr (.inr (.inr ‹_›)))
    subst e1 e2 e3
    have e : decide (((k, n, s, xs.map itC) : Dt) = (k, n, s, ys.map itC)) = decide (xs.map itC = ys.map itC) := by simp
    rw [e]
    exact same_lists k n s a xs lc a' ys lc' w hS hS' e4.symm h8 h0 h0'
end Go.Proofs.YtijggofelepaaaaGreatDoor.Dm
