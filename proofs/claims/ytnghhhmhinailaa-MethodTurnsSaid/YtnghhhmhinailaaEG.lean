/- The contract of the program's listOf: the list that the bytes begin with; other memory stands. -/
import Derived.Test.YtnghhhmhinailaaEF
import Derived.Laws.IdiomCopy
set_option maxRecDepth 100000
namespace Go.Proofs.Ytnghhhmhinailaa.Dm
open Go Go.RowKit
/-- An item's own data. -/
def cont (x : It) : Int × Int × ByteArray := (x.k, x.n, x.s)
/-- Items that were read. -/
def Fre (xs : List It) : Prop := ∀ x ∈ xs, I64 x.n ∧ x.ll = 0
/-- The items lie in a block from B on. -/
def SlG (B : Nat) (w : World) (a : Option Addr) (xs : List It) : Prop :=
  xs = [] ∨ ∃ b off, a = some ⟨b, off, none⟩ ∧ B ≤ b ∧ b < w.heap.size ∧ CellsOf w b off xs
theorem SlG.sl {B : Nat} {w : World} {a : Option Addr} {xs : List It} (h : SlG B w a xs) : Sl w a xs := by
  rcases h with h | ⟨b, off, h1, _, h3, h4⟩
  · exact .inl h
  · exact .inr ⟨b, off, h1, h3, h4⟩
theorem SlG.setCell {B : Nat} {w : World} {a : Option Addr} {xs : List It} (h : SlG B w a xs) {p : Addr} (hp : p.block < B) (v : Value) : SlG B (w.setCell p v) a xs := by
  rcases h with h | ⟨b, off, h1, h2, h3, h4⟩
  · exact .inl h
  · refine .inr ⟨b, off, h1, h2, by simpa [World.setCell] using h3, fun j hj => ?_⟩
    obtain ⟨e0, e1, e2, e3⟩ := h4 j hj
    have hh : ∀ i, (w.setCell p v).cell? ⟨b, i, none⟩ = w.cell? ⟨b, i, none⟩ := fun i => World.cell?_of_block (w := w) (Below.heap_setCell _ _ _ _ (by show b ≠ p.block; omega))
    exact ⟨(hh _).trans e0, (hh _).trans e1, (hh _).trans e2, (hh _).trans e3⟩


theorem SlG.setCells {B b : Nat} {w : World} {a : Option Addr} {xs : List It} (h : SlG B w a xs) (hb : b < B) (v0 v1 v2 v3 : Value) : SlG B ((((w.setCell ⟨b, 0, none⟩ v0).setCell ⟨b, 1, none⟩ v1).setCell ⟨b, 2, none⟩ v2).setCell ⟨b, 3, none⟩ v3) a xs :=
  (((h.setCell (p := ⟨b, 0, none⟩) hb v0).setCell (p := ⟨b, 1, none⟩) hb v1).setCell (p := ⟨b, 2, none⟩) hb v2).setCell (p := ⟨b, 3, none⟩) hb v3
theorem SlG.below {B C : Nat} {w w' : World} {a : Option Addr} {xs : List It} (h : SlG B w a xs) (hb : Below C w w') (hC : w.heap.size ≤ C) : SlG B w' a xs := by
  rcases h with h | ⟨b, off, h1, h2, h3, h4⟩
  · exact .inl h
  · have hs : Sl w' a xs := (Sl.below (.inr ⟨b, off, h1, h3, h4⟩) hb hC)
    rcases hs with h | ⟨b', off', e1, e3, e4⟩
    · exact .inl h
    · rw [h1] at e1
      injection e1 with e1
      injection e1 with e1 e2
      subst e1; subst e2
      exact .inr ⟨b, off, h1, h2, e3, e4⟩

theorem below_set4 {B b : Nat} {w w1 : World} (h : Below B w w1) (hb : B ≤ b) (v0 v1 v2 v3 : Value) : Below B w ((((w1.setCell ⟨b, 0, none⟩ v0).setCell ⟨b, 1, none⟩ v1).setCell ⟨b, 2, none⟩ v2).setCell ⟨b, 3, none⟩ v3) :=
  (((h.setCell (p := ⟨b, 0, none⟩) hb v0).setCell (p := ⟨b, 1, none⟩) hb v1).setCell (p := ⟨b, 2, none⟩) hb v2).setCell (p := ⟨b, 3, none⟩) hb v3
theorem Fre.allI {xs : List It} (h : Fre xs) : AllI xs := fun x hx => (h x hx).1

open Go Go.RowKit

/-- So many items that bytes begin with, and how many bytes they have. -/
def isF : Nat → List UInt8 → Option (List (Int × Int × ByteArray) × Nat)
  | 0, _ => some ([], 0)
  | c + 1, l => match itF l with
    | none => none
    | some (x, m) => (isF c (l.drop m)).map fun p => (x :: p.1, m + p.2)
/-- The list that bytes begin with (their first byte is not asked). -/
def lsF : List UInt8 → Option (List (Int × Int × ByteArray) × Nat)
  | _ :: d :: r => if 8 < d.toNat then none else (isF d.toNat r).map fun p => (p.1, 2 + p.2)
  | _ => none

theorem txF_pos : ∀ (l acc : List UInt8) (i : Nat) (a : List UInt8) (p : Nat), txF l acc i = some (a, p) → i + 2 ≤ p ∧ p ≤ i + l.length
  | [], _, _, _, _, h => by simp [txF] at h
  | [_], _, _, _, _, h => by simp [txF] at h
  | c :: d :: r, acc, i, a, p, h => by
    rw [txF] at h
    split at h
    · cases h
    · split at h
      · have := txF_pos (d :: r) _ _ _ _ h
        simp only [List.length_cons] at this ⊢
        omega
      · split at h
        · injection h with h
          injection h with _ h
          simp only [List.length_cons]
          omega
        · split at h
          · cases h
          · have := txF_pos r _ _ _ _ h
            simp only [List.length_cons]
            omega
theorem toI_i64 (u : Nat) : I64 (toI u) := by
  unfold toI wrap64 I64
  omega
theorem itF_some {l : List UInt8} {k n : Int} {t : ByteArray} {m : Nat} (h : itF l = some ((k, n, t), m)) : I64 n ∧ 1 ≤ m ∧ m ≤ l.length := by
  match l with
  | [] => cases h
  | c :: r =>
    rw [itF] at h
    split at h
    · split at h
      · cases h
      · injection h with h
        injection h with h1 h2
        injection h1 with _ h1
        injection h1 with h1 _
        subst h1; subst h2
        refine ⟨toI_i64 _, by omega, ?_⟩
        simp only [List.length_cons]
        omega
    · split at h
      · obtain ⟨⟨a, p⟩, h1, h2⟩ := Option.map_eq_some_iff.1 h
        have := txF_pos _ _ _ _ _ h1
        injection h2 with h2 h3
        injection h2 with _ h2
        injection h2 with h2 _
        subst h2; subst h3
        refine ⟨⟨by decide, by decide⟩, by omega, ?_⟩
        simp only [List.length_cons]
        omega
      · cases h

def zero4 : List Value := [.int .i64 0, .int .i64 0, .string ⟨#[]⟩, .slice none 0 0]
def zs (d : Nat) : Array Value := ((List.replicate d zero4).flatten).toArray
theorem mkd0 (w : World) : (Instr.makeSlice 31 (.int .u8 (0 : Nat)) (.int .u8 (0 : Nat))).run Try.prog w = .ok (.slice (some ⟨w.heap.size, 0, none⟩) 0 0) (w.alloc (.cells (zs 0) 33)) := by kernel_rfl
theorem mkd1 (w : World) : (Instr.makeSlice 31 (.int .u8 (1 : Nat)) (.int .u8 (1 : Nat))).run Try.prog w = .ok (.slice (some ⟨w.heap.size, 0, none⟩) 1 1) (w.alloc (.cells (zs 1) 33)) := by kernel_rfl
theorem mkd2 (w : World) : (Instr.makeSlice 31 (.int .u8 (2 : Nat)) (.int .u8 (2 : Nat))).run Try.prog w = .ok (.slice (some ⟨w.heap.size, 0, none⟩) 2 2) (w.alloc (.cells (zs 2) 33)) := by kernel_rfl
theorem mkd3 (w : World) : (Instr.makeSlice 31 (.int .u8 (3 : Nat)) (.int .u8 (3 : Nat))).run Try.prog w = .ok (.slice (some ⟨w.heap.size, 0, none⟩) 3 3) (w.alloc (.cells (zs 3) 33)) := by kernel_rfl
theorem mkd4 (w : World) : (Instr.makeSlice 31 (.int .u8 (4 : Nat)) (.int .u8 (4 : Nat))).run Try.prog w = .ok (.slice (some ⟨w.heap.size, 0, none⟩) 4 4) (w.alloc (.cells (zs 4) 33)) := by kernel_rfl
theorem mkd5 (w : World) : (Instr.makeSlice 31 (.int .u8 (5 : Nat)) (.int .u8 (5 : Nat))).run Try.prog w = .ok (.slice (some ⟨w.heap.size, 0, none⟩) 5 5) (w.alloc (.cells (zs 5) 33)) := by kernel_rfl
theorem mkd6 (w : World) : (Instr.makeSlice 31 (.int .u8 (6 : Nat)) (.int .u8 (6 : Nat))).run Try.prog w = .ok (.slice (some ⟨w.heap.size, 0, none⟩) 6 6) (w.alloc (.cells (zs 6) 33)) := by kernel_rfl
theorem mkd7 (w : World) : (Instr.makeSlice 31 (.int .u8 (7 : Nat)) (.int .u8 (7 : Nat))).run Try.prog w = .ok (.slice (some ⟨w.heap.size, 0, none⟩) 7 7) (w.alloc (.cells (zs 7) 33)) := by kernel_rfl
theorem mkd8 (w : World) : (Instr.makeSlice 31 (.int .u8 (8 : Nat)) (.int .u8 (8 : Nat))).run Try.prog w = .ok (.slice (some ⟨w.heap.size, 0, none⟩) 8 8) (w.alloc (.cells (zs 8) 33)) := by kernel_rfl
theorem mkd (d : Nat) (hd : d ≤ 8) (w : World) : (Instr.makeSlice 31 (.int .u8 d) (.int .u8 d)).run Try.prog w = .ok (.slice (some ⟨w.heap.size, 0, none⟩) d d) (w.alloc (.cells (zs d) 33)) := by
  have h : d = 0 ∨ d = 1 ∨ d = 2 ∨ d = 3 ∨ d = 4 ∨ d = 5 ∨ d = 6 ∨ d = 7 ∨ d = 8 := by omega
  rcases h with rfl | rfl | rfl | rfl | rfl | rfl | rfl | rfl | rfl
  · exact mkd0 w
  · exact mkd1 w
  · exact mkd2 w
  · exact mkd3 w
  · exact mkd4 w
  · exact mkd5 w
  · exact mkd6 w
  · exact mkd7 w
  · exact mkd8 w

/-- Four cells of a block, stored anew. -/
abbrev st4 (w : World) (G o : Nat) (v0 v1 v2 v3 : Value) : World := (((w.setCell ⟨G, o, none⟩ v0).setCell ⟨G, o + 1, none⟩ v1).setCell ⟨G, o + 2, none⟩ v2).setCell ⟨G, o + 3, none⟩ v3

theorem st4_eq (w : World) (G o : Nat) (v0 v1 v2 v3 : Value) : st4 w G o v0 v1 v2 v3 = w.setCells G o [v0, v1, v2, v3] := rfl

/-- The row that is being filled: acc stands at its head, and behind it zero data. -/
structure Row0 (w : World) (G D : Nat) (acc : List It) : Prop where
  got : CellsOf w G 0 acc
  zero : ∀ q, acc.length ≤ q → q < D → w.cell? ⟨G, q * 4, none⟩ = some (.int .i64 0) ∧ w.cell? ⟨G, q * 4 + 1, none⟩ = some (.int .i64 0) ∧ w.cell? ⟨G, q * 4 + 2, none⟩ = some (.string ⟨#[]⟩) ∧ w.cell? ⟨G, q * 4 + 3, none⟩ = some (.slice none 0 0)
  cold : ∀ o, w.frozen? ⟨G, o, none⟩ = false

theorem Row0.below {w w' : World} {G D B : Nat} {acc : List It} (h : Row0 w G D acc) (hb : Below B w w') (hG : G < B) : Row0 w' G D acc where
  got := fun j hj => by
    obtain ⟨e0, e1, e2, e3⟩ := h.got j hj
    exact ⟨(hb.cell (p := ⟨G, _, none⟩) hG).trans e0, (hb.cell (p := ⟨G, _, none⟩) hG).trans e1, (hb.cell (p := ⟨G, _, none⟩) hG).trans e2, (hb.cell (p := ⟨G, _, none⟩) hG).trans e3⟩
  zero := fun q h1 h2 => by
    obtain ⟨e0, e1, e2, e3⟩ := h.zero q h1 h2
    exact ⟨(hb.cell (p := ⟨G, _, none⟩) hG).trans e0, (hb.cell (p := ⟨G, _, none⟩) hG).trans e1, (hb.cell (p := ⟨G, _, none⟩) hG).trans e2, (hb.cell (p := ⟨G, _, none⟩) hG).trans e3⟩
  cold := fun o => (hb.frozen (p := ⟨G, o, none⟩) hG).trans (h.cold o)

theorem Row0.store {w : World} {G D : Nat} {acc : List It} (h : Row0 w G D acc) (hlt : acc.length < D) (k n : Int) (t : ByteArray) : Row0 (st4 w G (acc.length * 4) (.int .i64 k) (.int .i64 n) (.string t) (.slice none 0 0)) G D (acc ++ [⟨k, n, t, none, 0, 0⟩]) := by
  rw [st4_eq]
  have hin := World.cell?_setCells_in G [.int .i64 k, .int .i64 n, .string t, .slice none 0 0] (acc.length * 4) w (by
    obtain ⟨e0, e1, e2, e3⟩ := h.zero acc.length (Nat.le_refl _) hlt
    intro j hj
    have hq : j = 0 ∨ j = 1 ∨ j = 2 ∨ j = 3 := by simp only [List.length_cons, List.length_nil] at hj; omega
    rcases hq with rfl | rfl | rfl | rfl
    · rw [Nat.add_zero, e0]; rfl
    · rw [e1]; rfl
    · rw [e2]; rfl
    · rw [e3]; rfl)
  have hout : ∀ o, o < acc.length * 4 ∨ acc.length * 4 + 4 ≤ o → (w.setCells G (acc.length * 4) [.int .i64 k, .int .i64 n, .string t, .slice none 0 0]).cell? ⟨G, o, none⟩ = w.cell? ⟨G, o, none⟩ := fun o ho =>
    World.cell?_setCells_out G _ _ w ⟨G, o, none⟩ (fun _ _ => ho)
  refine ⟨fun j hj => ?_, fun q h1 h2 => ?_, fun o => by rw [World.frozen?_setCells]; exact h.cold o⟩
  · simp only [List.length_append, List.length_singleton] at hj
    by_cases hj' : j < acc.length
    · obtain ⟨e0, e1, e2, e3⟩ := h.got j hj'
      have e : (acc ++ [(⟨k, n, t, none, 0, 0⟩ : It)])[j]'(by simp; omega) = acc[j] := List.getElem_append_left hj'
      rw [e]
      exact ⟨(hout _ (by omega)).trans e0, (hout _ (by omega)).trans e1, (hout _ (by omega)).trans e2, (hout _ (by omega)).trans e3⟩
    · obtain rfl : j = acc.length := by omega
      have e : (acc ++ [(⟨k, n, t, none, 0, 0⟩ : It)])[acc.length]'(by simp) = ⟨k, n, t, none, 0, 0⟩ := by simp
      rw [e, Nat.zero_add]
      exact ⟨hin 0 (by simp), hin 1 (by simp), hin 2 (by simp), hin 3 (by simp)⟩
  · simp only [List.length_append, List.length_singleton] at h1
    obtain ⟨e0, e1, e2, e3⟩ := h.zero q (by omega) h2
    exact ⟨(hout _ (by omega)).trans e0, (hout _ (by omega)).trans e1, (hout _ (by omega)).trans e2, (hout _ (by omega)).trans e3⟩

theorem isF_step {c : Nat} {l : List UInt8} {x : Int × Int × ByteArray} {m : Nat} (h : itF l = some (x, m)) : isF (c + 1) l = (isF c (l.drop m)).map fun p => (x :: p.1, m + p.2) := by rw [isF, h]
theorem isF_none {c : Nat} {l : List UInt8} (h : itF l = none) : isF (c + 1) l = none := by rw [isF, h]

theorem row0_start (w : World) (D : Nat) (hD : D ≤ 8) : Row0 (w.alloc (.cells (zs D) 33)) w.heap.size D [] := by
  refine ⟨fun j hj => by simp at hj, fun q _ h2 => ?_, fun o => by simp⟩
  have h : D = 0 ∨ D = 1 ∨ D = 2 ∨ D = 3 ∨ D = 4 ∨ D = 5 ∨ D = 6 ∨ D = 7 ∨ D = 8 := by omega
  have hq : q = 0 ∨ q = 1 ∨ q = 2 ∨ q = 3 ∨ q = 4 ∨ q = 5 ∨ q = 6 ∨ q = 7 := by omega
  rcases h with rfl | rfl | rfl | rfl | rfl | rfl | rfl | rfl | rfl <;> rcases hq with rfl | rfl | rfl | rfl | rfl | rfl | rfl | rfl <;> first | (exfalso; omega) | (simp [zs, zero4, List.replicate])

/-- What listOf leaves. -/
def ListPostB (s : List UInt8) (w : World) (e : Ending) (w' : World) : Prop :=
  Below w.heap.size w w' ∧
  ((lsF s = none ∧ e = .returned (.tuple #[.agg #[.int .i64 0, .int .i64 0, .string ⟨#[]⟩, .slice none 0 0], .int .i64 0])) ∨
   ∃ (a : Option Addr) (xs : List It) (lc m : Nat), lsF s = some (xs.map cont, m) ∧ 1 ≤ m ∧ e = .returned (.tuple #[.agg #[.int .i64 3, .int .i64 0, .string ⟨#[]⟩, .slice a xs.length lc], .int .i64 m]) ∧ Fre xs ∧ xs.length ≤ 8 ∧ SlG w.heap.size w' a xs)

theorem SlG.weak {B C : Nat} {w : World} {a : Option Addr} {xs : List It} (h : SlG B w a xs) (hC : C ≤ B) : SlG C w a xs := by
  rcases h with h | ⟨b, off, h1, h2, h3, h4⟩
  · exact .inl h
  · exact .inr ⟨b, off, h1, by omega, h3, h4⟩

set_option maxHeartbeats 3200000 in
theorem listOf_any (s : ByteArray) (w : World) (hs : s.size ≤ 140737488355328) : Calls Try.prog 63 #[.string s] w (ListPostB s.data.toList w) := by
  have HLEN := Lib.hid (toList_size s)
  by_cases h2 : s.size < 2
  · have HN : Hid (lsF s.data.toList = none) := Lib.hid (by
      have := HLEN.out
      match hl : s.data.toList with
      | [] => rfl
      | [_] => rfl
      | _ :: _ :: _ => rw [hl] at this; simp only [List.length_cons] at this; omega)
    go_enter Try.func63, Try.ntmps63
    go_wp2
    refine bodyPost_ret (v := .tuple #[.agg #[.int .i64 0, .int .i64 0, .string ⟨#[]⟩, .slice none 0 0], .int .i64 0]) (by simp [results, Try.results63, go_sem]) rfl ⟨by first | exact (Below.refl _ _).alloc (Nat.le_refl _) _ | exact below_res ((Below.refl _ _).alloc (Nat.le_refl _) _), .inl ⟨HN.out, rfl⟩⟩
  · obtain ⟨x0, d, r, hl⟩ : ∃ x0 d r, s.data.toList = x0 :: d :: r := by
      have := HLEN.out
      match hl : s.data.toList with
      | [] => rw [hl] at this; simp only [List.length_nil] at this; omega
      | [_] => rw [hl] at this; simp only [List.length_cons, List.length_nil] at this; omega
      | x :: d :: r => exact ⟨x, d, r, rfl⟩
    have h1s : 1 < s.size := by omega
    have hd : s[1] = d := by
      have e : s.data.toList[1]'(by rw [hl]; simp) = d := by simp [hl]
      exact (show s[1] = s.data.toList[1]'(by rw [hl]; simp) from rfl).trans e
    by_cases h8 : 8 < d.toNat
    · have HN : Hid (lsF s.data.toList = none) := Lib.hid (by rw [hl, lsF, if_pos h8])
      have b8 : 8 < (s[1].toNat : Int) := by rw [hd]; omega
      clear hl hd
      go_enter Try.func63, Try.ntmps63
      go_wp2
      refine bodyPost_ret (v := .tuple #[.agg #[.int .i64 0, .int .i64 0, .string ⟨#[]⟩, .slice none 0 0], .int .i64 0]) (by simp [results, Try.results63, go_sem]) rfl ⟨by first | exact (Below.refl _ _).alloc (Nat.le_refl _) _ | exact below_res ((Below.refl _ _).alloc (Nat.le_refl _) _), .inl ⟨HN.out, rfl⟩⟩
    · obtain ⟨D, hD⟩ : ∃ D : Nat, D = s[1].toNat := ⟨_, rfl⟩
      have hD8 : D ≤ 8 := by rw [hD, hd]; omega
      have b8 : ¬ 8 < (s[1].toNat : Int) := by omega
      have HF : Hid (lsF s.data.toList = (isF D (s.data.toList.drop 2)).map fun p => (p.1, 2 + p.2)) := Lib.hid (by
        rw [hl, lsF, if_neg h8, hD, hd]
        rfl)
      have hmk := mkd D hD8 (w.alloc (.cells #[.int .i64 0, .int .i64 0, .string ⟨#[]⟩, .slice none 0 0] 33))
      rw [hD] at hmk
      clear hl hd
      go_enter Try.func63, Try.ntmps63
      go_wp2
      rw [← hD]
      have HD := Lib.hid hD; clear hD hmk
      go_loopw [5, 6, 7, 8, 23] (fun vat _ _ _ vi wr => ∃ (at' : Nat) (acc : List It), vi = .int .i64 acc.length ∧ vat = .int .i64 at' ∧ acc.length ≤ D ∧ 2 ≤ at' ∧ at' ≤ s.size ∧ w.heap.size + 1 < wr.heap.size ∧ Hid (isF D (s.data.toList.drop 2) = (isF (D - acc.length) (s.data.toList.drop at')).map fun p => (acc.map cont ++ p.1, (at' - 2) + p.2)) ∧ Hid (Fre acc) ∧ Hid (Row0 wr (w.heap.size + 1) D acc) ∧ Hid (Below (w.heap.size + 1) (w.alloc (.cells #[.int .i64 0, .int .i64 0, .string ⟨#[]⟩, .slice none 0 0] 33)) wr)) (fun _ _ _ _ i _ => D - (intOf i).toNat)
      case atStart =>
        refine ⟨2, [], rfl, rfl, Nat.zero_le _, Nat.le_refl _, by omega, by simp, Lib.hid ?_, Lib.hid (fun x hx => by simp at hx), Lib.hid ?_, Lib.hid ((Below.refl _ _).alloc (by simp) _)⟩
        · simp
        · have := row0_start (w.alloc (.cells #[.int .i64 0, .int .i64 0, .string ⟨#[]⟩, .slice none 0 0] 33)) D hD8
          rw [World.size_alloc] at this
          exact this
      case round =>
        obtain ⟨at', acc, rfl, rfl, h1, h2a, h2b, hsz, HQ, HFR, HRW, HB⟩ := hrel
        by_cases hlt : acc.length < D
        · obtain ⟨c, hc⟩ : ∃ c, D - acc.length = c + 1 := ⟨D - acc.length - 1, by omega⟩
          have HBW : Hid (Below w.heap.size w wr) := Lib.hid (below_al _ (by simpa using HB.out))
          match hit : itF (s.data.toList.drop at') with
          | none =>
            have HN : Hid (lsF s.data.toList = none) := Lib.hid (by rw [HF.out, HQ.out, hc, isF_none hit]; rfl)
            have HIT := Lib.hid hit; clear hit hc
            go_wp2_with fail
            refine (itemOf_any _ _ (extract_small s _ hs)).mono ?_
            rw [extract_drop, HIT.out]
            rintro e w1 ⟨rfl, hb⟩
            have hz1 := hb.size
            have HB1 := Lib.hid ((HB.out.trans (hb.mono (by omega))).alloc (by omega) (.cells #[.int .i64 0, .int .i64 0, .string ⟨#[]⟩, .slice none 0 0] 33)); clear hb
            obtain ⟨c0, c1, c2, c3⟩ := box_cells HB1.out
            obtain ⟨f0, f1, f2, f3⟩ := box_frozen HB1.out
            rw [resF]
            go_wp2
            have HBW1 : Hid (Below w.heap.size w (w1.alloc (.cells #[.int .i64 0, .int .i64 0, .string ⟨#[]⟩, .slice none 0 0] 33))) := Lib.hid (below_al _ (by simpa using HB1.out))
            exact bodyPost_ret (v := .tuple #[.agg #[.int .i64 0, .int .i64 0, .string ⟨#[]⟩, .slice none 0 0], .int .i64 0]) (by simp [results, Try.results63, go_sem, c0, c1, c2, c3]) rfl ⟨below_res HBW1.out, .inl ⟨HN.out, rfl⟩⟩
          | some ((k, n, t), m) =>
            obtain ⟨hn, hm1, hm2⟩ := itF_some hit
            rw [List.length_drop, HLEN.out] at hm2
            have hmz : ((m : Int) == 0) = false := by rw [beq_eq_false_iff_ne]; omega
            have HN : Hid (isF D (s.data.toList.drop 2) = (isF (D - (acc.length + 1)) (s.data.toList.drop (at' + m))).map fun p => ((acc ++ [(⟨k, n, t, none, 0, 0⟩ : It)]).map cont ++ p.1, (at' + m - 2) + p.2)) := Lib.hid (by
              rw [HQ.out, hc, isF_step hit, List.drop_drop, show D - (acc.length + 1) = c by omega, Option.map_map]
              congr 1
              funext p
              simp only [Function.comp, List.map_append, List.map_cons, List.map_nil, List.append_assoc, List.cons_append, List.nil_append]
              refine Prod.ext rfl ?_
              show at' - 2 + (m + p.2) = at' + m - 2 + p.2
              omega)
            have HFR2 : Hid (Fre (acc ++ [(⟨k, n, t, none, 0, 0⟩ : It)])) := Lib.hid (by
              intro x hx
              rw [List.mem_append, List.mem_singleton] at hx
              rcases hx with hx | rfl
              · exact HFR.out x hx
              · exact ⟨hn, rfl⟩)
            have HIT := Lib.hid hit; clear hit hc
            go_wp2_with fail
            refine (itemOf_any _ _ (extract_small s _ hs)).mono ?_
            rw [extract_drop, HIT.out]
            rintro e w1 ⟨rfl, hb⟩
            have hz1 := hb.size
            have HR1 := Lib.hid (HRW.out.below hb (by omega))
            have HB1 := Lib.hid (HB.out.trans (hb.mono (by omega))); clear hb
            have HR2 := Lib.hid (HR1.out.below ((Below.refl w1.heap.size w1).alloc (Nat.le_refl _) (.cells #[.int .i64 k, .int .i64 n, .string t, .slice none 0 0] 33)) (by omega))
            have HR3 := Lib.hid (HR2.out.store hlt k n t)
            obtain ⟨e0, e1, e2, e3⟩ := HR2.out.zero acc.length (Nat.le_refl _) hlt
            have f0 := HR2.out.cold (acc.length * 4)
            have f1 := HR2.out.cold (acc.length * 4 + 1)
            have f2 := HR2.out.cold (acc.length * 4 + 2)
            have f3 := HR2.out.cold (acc.length * 4 + 3)
            rw [resF]
            go_wp2
            go_roundw
            case rel =>
              refine ⟨at' + m, acc ++ [⟨k, n, t, none, 0, 0⟩], by rw [List.length_append]; go_num, by go_num, by simp; omega, by omega, by omega, ?_, ?_, HFR2, HR3, ?_⟩
              · simp [World.setCell]; omega
              · rw [List.length_append]; exact HN
              · exact Lib.hid ((((((HB1.out.alloc (by omega) _).setCell (p := ⟨w.heap.size + 1, _, none⟩) (Nat.le_refl _) _).setCell (p := ⟨w.heap.size + 1, _, none⟩) (Nat.le_refl _) _).setCell (p := ⟨w.heap.size + 1, _, none⟩) (Nat.le_refl _) _).setCell (p := ⟨w.heap.size + 1, _, none⟩) (Nat.le_refl _) _))
            case measure => simp [intOf]; omega
        · obtain ⟨hD'⟩ : Nonempty (acc.length = D) := ⟨by omega⟩
          have HN : Hid (lsF s.data.toList = some (acc.map cont, at')) := Lib.hid (by
            rw [HF.out, HQ.out, hD', Nat.sub_self, isF]
            simp only [Option.map_some, List.append_nil, Nat.add_zero]
            rw [show 2 + (at' - 2) = at' by omega])
          have HBW : Hid (Below w.heap.size w wr) := Lib.hid (below_al _ (by simpa using HB.out))
          obtain ⟨c0, c1, c2, c3⟩ := box_cells HB.out
          obtain ⟨f0, f1, f2, f3⟩ := box_frozen HB.out
          have HSG : Hid (SlG (w.heap.size + 1) wr (some ⟨w.heap.size + 1, 0, none⟩) acc) := Lib.hid (.inr ⟨w.heap.size + 1, 0, rfl, Nat.le_refl _, by omega, HRW.out.got⟩)
          subst hD'
          go_wp2
          exact bodyPost_ret (v := .tuple #[.agg #[.int .i64 3, .int .i64 0, .string ⟨#[]⟩, .slice (some ⟨w.heap.size + 1, 0, none⟩) acc.length acc.length], .int .i64 at']) (by simp [results, Try.results63, go_sem, c0, c1, c2, c3]) rfl ⟨below_res HBW.out, .inr ⟨some ⟨w.heap.size + 1, 0, none⟩, acc, acc.length, at', HN.out, by omega, rfl, HFR.out, hD8, (HSG.out.setCells (by omega) _ _ _ _).weak (by omega)⟩⟩
end Go.Proofs.Ytnghhhmhinailaa.Dm
