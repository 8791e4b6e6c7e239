/- Texts of the same proof, one behind the other: VC, HA, HG, HC, HD, HH, HJ, HM. -/
import Derived.Test.YtijggofelepaaaaGreatDoorMAL
import Derived.Test.YtijggofelepaaaaGreatDoorProg
import Derived.Below
import Derived.Lib.Hide
import Derived.Test.YtijggofelepaaaaGreatDoorMAA
import Derived.IntWalk
import Derived.Deep.RegionHeldLaw
import Derived.Test.YtijggofelepaaaaGreatDoorMAB
/- Contract: a draft of a page. -/
set_option maxRecDepth 100000
namespace Go.Proofs.YtijggofelepaaaaGreatDoor
open Go.RowKit

theorem built_draft : Tryz.prog.built 103 [] = some (Dr.cells ⟨0, false, noughts, noughts⟩).toArray := by kernel_rfl
theorem run_sliceAll (W : World) (x : Addr) : (Instr.sliceAt 101 (.pointer (some x)) none none none).run Tryz.prog W = .ok (.slice (some x) 512 512) W := by
  obtain ⟨i, hi, _⟩ := Option.map_eq_some_iff.1 infoU8
  simp [Instr.sliceAt, run_underlying Tryz.underlying101, Instr.sureAddr, Instr.sliceBounds, sizeOf, typeInfo, hi, Result.andThen]
  cases x
  rfl
theorem infoPageA : (Tryz.prog.info? 101).map (·.size) = some 512 := by kernel_rfl

def DraftPost (t : ByteArray) (w : World) (e : Ending) (w' : World) : Prop := ∃ b, e = .returned (.pointer (some ⟨b, 0, none⟩)) ∧ w.heap.size ≤ b ∧ b < w'.heap.size ∧ Below w.heap.size w w' ∧ (∀ j, w'.frozen? ⟨b, j, none⟩ = false) ∧ w'.rangeAt b 0 (Dr.cells ⟨b, false, t.data.toList, t.data.toList⟩)

set_option maxHeartbeats 1600000 in
theorem draftOf_ok (t : ByteArray) (w : World) (ht : t.size = 512) : Calls Tryz.prog 45 #[.string t] w (DraftPost t w) := by
  have htl : t.data.toList.length = 512 := ht
  have hbl : (Lib.byteCells t.data.toList).length = 512 := by rw [Lib.byteCells_length]; exact htl
  obtain ⟨Y, hY⟩ : ∃ Y : Array Value, Y = (Dr.cells ⟨0, false, noughts, noughts⟩).toArray := ⟨_, rfl⟩
  have HB := Lib.hid built_draft
  rw [← hY] at HB
  obtain ⟨w1, hw1⟩ : ∃ w1, w1 = w.alloc (.cells Y 103) := ⟨_, rfl⟩
  obtain ⟨b, hb⟩ : ∃ b, b = w.heap.size := ⟨_, rfl⟩
  have hnew : w1.heap[b]? = some (.cells Y 103 (0, 0)) := by rw [hw1, hb]; exact heap_alloc_new w _
  have hYl : Y.size = 1025 := by rw [hY]; show (Dr.cells ⟨0, false, noughts, noughts⟩).length = 1025; exact Dr.cells_length _ noughts_length noughts_length
  have hth : w1.there b 0 1025 := fun j hj => by
    refine ⟨?_, Lib.frozen_of_heap hnew _⟩
    rw [Nat.zero_add, Lib.cell_of_heap hnew, Array.getElem?_eq_getElem (by rw [hYl]; exact hj)]; rfl
  have hth1 : w1.there b 1 512 := there_part hth (by omega) (by omega)
  have hcp := run_copy_string_mid w1 94 9 3 5 b 1 512 512 t Tryz.underlying94 (by kernel_rfl) (by rw [ht]; exact hth1) (by omega)
  obtain ⟨w2, hw2⟩ : ∃ w2, w2 = w1.setCells b 1 (Lib.byteCells t.data.toList) := ⟨_, rfl⟩
  rw [← hw2] at hcp
  have hr2 : w2.rangeAt b 1 (Lib.byteCells t.data.toList) := by rw [hw2]; exact World.rangeAt_setCells_same w1 b 1 _ (by rw [hbl]; exact hth1)
  have hth2 : w2.there b 0 1025 := by rw [hw2]; exact World.there_setCells hth b 1 _
  have hth3 : w2.there b 513 512 := there_part hth2 (by omega) (by omega)
  obtain ⟨w3, hw3⟩ : ∃ w3, w3 = w2.setCells b 513 (Lib.byteCells t.data.toList) := ⟨_, rfl⟩
  have hk3 : Kept (fun k => k = b) w1 w3 := by
    rw [hw3, hw2]
    exact (Kept.setCells (fun k => k = b) w1 rfl _).trans (Kept.setCells (fun k => k = b) _ rfl _) (fun _ e => .inl e)
  have hb1 : Below w.heap.size w w1 := by rw [hw1]; exact (Below.refl _ _).alloc (Nat.le_refl _) _
  have hb3 : Below w.heap.size w w3 := hb1.trans (hk3.toBelow hb1.size (fun k e => by rw [e, hb]; exact Nat.le_refl _))
  have hr3 : w3.rangeAt b 0 (Dr.cells ⟨b, false, t.data.toList, t.data.toList⟩) := fun j v hv => by
    rw [Nat.zero_add]
    unfold Dr.cells at hv
    cases j with
    | zero =>
      simp only [List.getElem?_cons_zero, Option.some.injEq] at hv
      subst hv
      have h0 : w1.cell? ⟨b, 0, none⟩ = some (.bool false) := by
        rw [Lib.cell_of_heap hnew, hY]; rfl
      rw [hw3, World.cell?_setCells_out b _ 513 w2 _ (fun _ _ => .inl (by show 0 < 513; omega)), hw2, World.cell?_setCells_out b _ 1 w1 _ (fun _ _ => .inl (by show 0 < 1; omega))]
      exact h0
    | succ j =>
      rw [List.getElem?_cons_succ] at hv
      by_cases hj : j < 512
      · rw [List.getElem?_append_left (by rw [hbl]; exact hj)] at hv
        have := hr2 j v hv
        rw [hw3, World.cell?_setCells_out b _ 513 w2 _ (fun _ _ => .inl (by show j + 1 < 513; omega)), Nat.add_comm]
        exact this
      · rw [List.getElem?_append_right (by rw [hbl]; omega), hbl] at hv
        have := World.rangeAt_setCells_same w2 b 513 (Lib.byteCells t.data.toList) (by rw [hbl]; exact hth3) (j - 512) v hv
        rw [hw3, show j + 1 = 513 + (j - 512) by omega]
        exact this
  have HE : Hid (DraftPost t w (.returned (.pointer (some ⟨b, 0, none⟩))) w3) := Lib.hid ⟨b, rfl, by omega, by
    have h1 := (Array.getElem?_eq_some_iff.1 hnew).1
    exact Nat.lt_of_lt_of_le h1 hk3.size, hb3, fun j => by rw [hw3, World.frozen?_setCells, hw2, World.frozen?_setCells]; exact Lib.frozen_of_heap hnew _, hr3⟩
  obtain ⟨X, hX⟩ : ∃ X : Array Value, X = (Lib.byteCells t.data.toList).toArray := ⟨_, rfl⟩
  have HX : Hid (X.size = 512) := Lib.hid (by rw [hX]; exact hbl)
  have hXl : X.toList = Lib.byteCells t.data.toList := by rw [hX]
  have HR2 : Hid (w2.rangeAt b 1 X.toList) := Lib.hid (by rw [hXl]; exact hr2)
  have HT3 : Hid (w2.there b 513 X.size) := Lib.hid (by rw [HX.out]; exact hth3)
  have HI : Hid ((Tryz.prog.info? 101).map (·.size) = some X.size) := Lib.hid (by rw [HX.out]; exact infoPageA)
  have HIL : Hid ((Tryz.prog.info? 101).map (·.size) = some X.toList.length) := Lib.hid (by rw [Array.length_toList, HX.out]; exact infoPageA)
  have HO : Hid (X.all (·.oneCell') = true) := Lib.hid (by rw [hX]; exact all_oneCell_toArray (Lib.byteCells_one _))
  have HW3 : Hid (w2.setCells b 513 X.toList = w3) := Lib.hid (by rw [hXl, hw3])
  have hsl := fun W => run_sliceAll W ⟨b, 1, none⟩
  have hts : (t.size : Int) = 512 := by omega
  clear hbl htl hY hnew hYl hth hth1 hw2 hr2 hth2 hth3 hw3 hk3 hb1 hb3 hr3 hX hXl ht
  rw [hw1] at hcp
  clear hw1
  subst hb
  go_enter Tryz.func45, Tryz.ntmps45
  go_wp2_with (refine wpList_val rfl (.agg Y) (exec_build rfl _ (by simp [go_sem]) Y HB.out w) ?_)
  refine wp_load_mid 101 _ rfl w.heap.size 1 (by rfl) X.toList _ HR2.out Tryz.underlying101 rfl HIL.out ?_
  rw [Array.toArray_toList]
  go_wp2_with (first
    | (refine wpList_store_mid rfl 101 _ _ rfl w.heap.size 513 X (by rfl) (by rfl) HT3.out HI.out HO.out ?_; rw [HW3.out])
    | (refine wp_store_mid 101 _ _ rfl w.heap.size 513 X (by rfl) (by rfl) HT3.out HI.out HO.out ?_; rw [HW3.out]))
  go_ret
  exact HE.out
end Go.Proofs.YtijggofelepaaaaGreatDoor

/- A heap's sheet in plain words: its places, its page's bytes, and that what is read from them is the sheet. -/
set_option maxRecDepth 100000
namespace Go.Proofs.YtijggofelepaaaaGreatDoor
open Go.RowKit

/-- A place: a row (none, where it is empty), and whether it is dead. -/
structure Pl where
  row : List UInt8
  dead : Bool
def Pl.no : Pl := ⟨[], false⟩
def Pl.bit (p : Pl) : Nat := if p.dead then 512 else 0
/-- The two bytes ahead of a row, as a number. -/
def Pl.hd (k : Nat) (p : Pl) : Nat := k * 1024 + p.bit + p.row.length
def Pl.bytes (k : Nat) (p : Pl) : List UInt8 := if p.row = [] then [] else UInt8.ofNat (p.hd k / 256) :: UInt8.ofNat (p.hd k % 256) :: p.row
/-- What rows take, from place k on. -/
def rowsB : Nat → List Pl → List UInt8
  | _, [] => []
  | k, p :: r => p.bytes k ++ rowsB (k + 1) r
def Pl.cnt (p : Pl) : Nat := if p.row = [] then 0 else 1
def Pl.sz (p : Pl) : Nat := if p.row = [] then 0 else 2 + p.row.length
def cntP : List Pl → Nat
  | [] => 0
  | p :: r => p.cnt + cntP r
def szP : List Pl → Nat
  | [] => 0
  | p :: r => p.sz + szP r
/-- A sheet's bytes, ahead of the noughts; the page. -/
def shB (l : List Pl) : List UInt8 := UInt8.ofNat (cntP l) :: rowsB 0 l
def shP (l : List Pl) : List UInt8 := shB l ++ List.replicate (512 - (shB l).length) 0
/-- A sheet that fits on a page. -/
structure ShOk (l : List Pl) : Prop where
  n : l.length = 64
  row : ∀ p ∈ l, p.row.length ≤ 400
  none_ : ∀ p ∈ l, p.row = [] → p.dead = false
  fit : 1 + szP l ≤ 512

theorem bytes_len (k : Nat) (p : Pl) : (p.bytes k).length = p.sz := by
  unfold Pl.bytes Pl.sz
  split
  · rfl
  · simp; omega
theorem rowsB_len : ∀ (l : List Pl) (k : Nat), (rowsB k l).length = szP l
  | [], _ => rfl
  | p :: r, k => by rw [rowsB, List.length_append, bytes_len, rowsB_len r, szP]
theorem cntP_le : ∀ l : List Pl, cntP l ≤ l.length
  | [] => Nat.le_refl _
  | p :: r => by
    have := cntP_le r
    have h : p.cnt ≤ 1 := by unfold Pl.cnt; split <;> omega
    rw [cntP, List.length_cons]; omega
theorem shB_len (l : List Pl) : (shB l).length = 1 + szP l := by rw [shB, List.length_cons, rowsB_len]; omega
theorem shP_len {l : List Pl} (h : 1 + szP l ≤ 512) : (shP l).length = 512 := by rw [shP, List.length_append, List.length_replicate, shB_len]; omega

/-- What is read: n rows from place at of a page on. -/
def rdP (b : List UInt8) : Nat → Nat → List Pl → List Pl
  | 0, _, l => l
  | n + 1, at_, l =>
    if b.length < at_ + 2 then l
    else
      let h := (b.getD at_ 0).toNat * 256 + (b.getD (at_ + 1) 0).toNat
      let e := at_ + 2 + h % 512
      if b.length < e then l
      else rdP b n e (if at_ + 2 < e then l.set (h / 1024) ⟨(b.drop (at_ + 2)).take (e - (at_ + 2)), decide (h / 512 % 2 = 1)⟩ else l)
def noP (n : Nat) : List Pl := List.replicate n Pl.no
def rdSh (b : List UInt8) : List Pl := rdP b (b.getD 0 0).toNat 1 (noP 64)

theorem hd_lt {k : Nat} {p : Pl} (hk : k < 64) (hp : p.row.length ≤ 400) : p.hd k < 65536 := by
  unfold Pl.hd Pl.bit; split <;> omega
theorem hd_parts {k : Nat} {p : Pl} (hp : p.row.length ≤ 400) : p.hd k / 1024 = k ∧ p.hd k % 512 = p.row.length ∧ (p.hd k / 512 % 2 = 1 ↔ p.dead = true) := by
  unfold Pl.hd Pl.bit
  have h2 : k * 1024 = 512 * (2 * k) := by omega
  cases p.dead with
  | true =>
    simp only [if_true]
    have e : (k * 1024 + 512 + p.row.length) / 512 = 2 * k + 1 := by omega
    exact ⟨by omega, by omega, ⟨fun _ => trivial, fun _ => by rw [e]; omega⟩⟩
  | false =>
    simp only [Bool.false_eq_true, if_false]
    have e : (k * 1024 + 0 + p.row.length) / 512 = 2 * k := by omega
    exact ⟨by omega, by omega, ⟨fun h => by rw [e] at h; omega, fun h => by cases h⟩⟩
theorem getD_app (a b : List UInt8) (j : Nat) (h : a.length ≤ j) : (a ++ b).getD j 0 = b.getD (j - a.length) 0 := by
  rw [List.getD_eq_getElem?_getD, List.getElem?_append_right h, List.getD_eq_getElem?_getD]
theorem rdP_rows : ∀ (l done : List Pl) (pre tail : List UInt8), done.length + l.length ≤ 64 → (∀ p ∈ l, p.row.length ≤ 400) → (∀ p ∈ l, p.row = [] → p.dead = false) →
    rdP (pre ++ (rowsB done.length l ++ tail)) (cntP l) pre.length (done ++ noP l.length) = done ++ l
  | [], done, pre, tail, _, _, _ => by simp [rdP, cntP, noP]
  | p :: r, done, pre, tail, hn, hr, hd => by
    have hn' : (done ++ [p]).length + r.length ≤ 64 := by rw [List.length_append, List.length_singleton]; rw [List.length_cons] at hn; omega
    have e1 : done ++ noP (p :: r).length = done ++ [Pl.no] ++ noP r.length := by simp [noP, List.replicate_succ]
    have hl1 : (done ++ [p]).length = done.length + 1 := by simp
    by_cases h0 : p.row = []
    · have hp : p = Pl.no := by
        have := hd p (by simp) h0
        obtain ⟨a, b⟩ := p
        simp only at h0 this
        subst h0 this; rfl
      have ih := rdP_rows r (done ++ [p]) pre tail hn' (fun q hq => hr q (by simp [hq])) (fun q hq => hd q (by simp [hq]))
      rw [hl1] at ih
      have hb : p.bytes done.length = [] := by unfold Pl.bytes; rw [if_pos h0]
      have hc : p.cnt = 0 := by unfold Pl.cnt; rw [if_pos h0]
      rw [rowsB, hb, List.nil_append, cntP, hc, Nat.zero_add, e1, ← hp, ih]
      simp
    · have hlen := hr p (by simp)
      have hk : done.length < 64 := by rw [List.length_cons] at hn; omega
      have hlt := hd_lt hk hlen
      obtain ⟨q1, q2, q3⟩ := hd_parts (k := done.length) hlen
      have hb : p.bytes done.length = UInt8.ofNat (p.hd done.length / 256) :: UInt8.ofNat (p.hd done.length % 256) :: p.row := by unfold Pl.bytes; rw [if_neg h0]
      have hc : p.cnt = 1 := by unfold Pl.cnt; rw [if_neg h0]
      have hpos : 0 < p.row.length := by
        cases hh : p.row with
        | nil => exact absurd hh h0
        | cons => simp
      rw [rowsB, hb, cntP, hc, Nat.add_comm 1, rdP]
      obtain ⟨H, hH⟩ : ∃ H, H = p.hd done.length := ⟨_, rfl⟩
      rw [← hH] at hlt q1 q2 q3 ⊢
      have g0 : (pre ++ (UInt8.ofNat (H / 256) :: UInt8.ofNat (H % 256) :: p.row ++ rowsB (done.length + 1) r ++ tail)).getD pre.length 0 = UInt8.ofNat (H / 256) := by
        rw [getD_app _ _ _ (Nat.le_refl _), Nat.sub_self]; rfl
      have g1 : (pre ++ (UInt8.ofNat (H / 256) :: UInt8.ofNat (H % 256) :: p.row ++ rowsB (done.length + 1) r ++ tail)).getD (pre.length + 1) 0 = UInt8.ofNat (H % 256) := by
        rw [getD_app _ _ _ (by omega), show pre.length + 1 - pre.length = 1 by omega]; rfl
      have hv : (UInt8.ofNat (H / 256)).toNat * 256 + (UInt8.ofNat (H % 256)).toNat = H := by
        rw [UInt8.toNat_ofNat', UInt8.toNat_ofNat']; omega
      have hL : (pre ++ (UInt8.ofNat (H / 256) :: UInt8.ofNat (H % 256) :: p.row ++ rowsB (done.length + 1) r ++ tail)).length = pre.length + 2 + p.row.length + (rowsB (done.length + 1) r ++ tail).length := by
        simp only [List.length_append, List.length_cons]; omega
      simp only [g0, g1, hv, q1, q2]
      rw [if_neg (by rw [hL]; omega), if_neg (by rw [hL]; omega), if_pos (by omega)]
      have hsl : ((pre ++ (UInt8.ofNat (H / 256) :: UInt8.ofNat (H % 256) :: p.row ++ rowsB (done.length + 1) r ++ tail)).drop (pre.length + 2)).take (pre.length + 2 + p.row.length - (pre.length + 2)) = p.row := by
        rw [show pre.length + 2 + p.row.length - (pre.length + 2) = p.row.length by omega, ← List.drop_drop, List.drop_left]
        simp
      have hdead : decide (H / 512 % 2 = 1) = p.dead := by
        cases hp : p.dead with
        | true => exact decide_eq_true (q3.2 hp)
        | false => exact decide_eq_false (fun e => by rw [q3.1 e] at hp; cases hp)
      rw [hsl, hdead]
      have hset : (done ++ noP (p :: r).length).set done.length ⟨p.row, p.dead⟩ = done ++ [p] ++ noP r.length := by
        rw [List.set_append_right _ _ (Nat.le_refl _), Nat.sub_self, List.length_cons, noP, List.replicate_succ, List.set_cons_zero]
        simp [noP]
      rw [hset]
      have ih := rdP_rows r (done ++ [p]) (pre ++ (UInt8.ofNat (H / 256) :: UInt8.ofNat (H % 256) :: p.row)) tail hn' (fun q hq => hr q (by simp [hq])) (fun q hq => hd q (by simp [hq]))
      rw [hl1] at ih
      have hpl : (pre ++ (UInt8.ofNat (H / 256) :: UInt8.ofNat (H % 256) :: p.row)).length = pre.length + 2 + p.row.length := by
        simp only [List.length_append, List.length_cons]; omega
      rw [hpl] at ih
      simp only [List.append_assoc, List.cons_append, List.nil_append] at ih ⊢
      exact ih
/-- What is read from a sheet's page is the sheet. -/
theorem rdSh_shP {l : List Pl} (h : ShOk l) : rdSh (shP l) = l := by
  have hc := cntP_le l
  have h64 := h.n
  have e0 : ((shP l).getD 0 0).toNat = cntP l := by
    show (UInt8.ofNat (cntP l)).toNat = _
    rw [UInt8.toNat_ofNat']; omega
  have := rdP_rows l [] [UInt8.ofNat (cntP l)] (List.replicate (512 - (shB l).length) 0) (by simp; omega) h.row h.none_
  unfold rdSh
  rw [e0]
  rw [h64] at this
  exact this
end Go.Proofs.YtijggofelepaaaaGreatDoor

/- Contracts of a heap's small calls: on places, sizes, marks, links. -/
set_option maxRecDepth 100000
namespace Go.Proofs.YtijggofelepaaaaGreatDoor
open Go.RowKit

/-- A place, as a value. -/
def plV (p : Pl) : Value := .agg #[.string ⟨p.row.toArray⟩, .bool p.dead]

set_option maxHeartbeats 400000 in
theorem holds_any (p : Pl) (w : World) : Calls Tryz.prog 107 #[plV p] w fun e w' => e = .returned (.bool (decide (p.row ≠ []))) ∧ Below w.heap.size w w' := by
  obtain ⟨r, d⟩ := p
  unfold plV
  simp only []
  cases r with
  | nil =>
    go_enter Tryz.func107, Tryz.ntmps107
    go_wp2
    go_ret
    exact ⟨rfl, (Below.refl _ _).alloc (Nat.le_refl _) _⟩
  | cons x r =>
    obtain ⟨s, hs⟩ : ∃ s : ByteArray, s = ⟨(x :: r).toArray⟩ := ⟨_, rfl⟩
    have hb : (s.toList != (⟨#[]⟩ : ByteArray).toList) = true := by
      rw [bne_iff_ne, hs, ByteArray.toList_eq, ByteArray.toList_eq]
      simp
    have hb2 : (s.toList == (⟨#[]⟩ : ByteArray).toList) = false := by simpa using hb
    have hb3 : (s.toList != []) = true := by
      rw [bne_iff_ne, hs, ByteArray.toList_eq]
      simp
    have hb4 : (s.toList == []) = false := by simpa using hb3
    rw [← hs]
    clear hs
    go_enter Tryz.func107, Tryz.ntmps107
    go_wp2
    go_ret
    exact ⟨by simp, (Below.refl _ _).alloc (Nat.le_refl _) _⟩

set_option maxHeartbeats 400000 in
theorem sizeOf_any (s : ByteArray) (w : World) (hs : s.size ≤ 281474976710656) : Calls Tryz.prog 101 #[.string s] w fun e w' => e = .returned (.int .i64 (2 + (s.size : Int))) ∧ w' = w := by
  have h1 : IntKind.i64.wrap (2 + (s.size : Int)) = 2 + (s.size : Int) := IntWalk.i64_in _ (by omega)
  go_enter Tryz.func101, Tryz.ntmps101
  go_wp2
  go_ret
  exact ⟨rfl, rfl⟩

set_option maxHeartbeats 400000 in
theorem markOf_any (room : Nat) (w : World) (hr : room < 100000) : Calls Tryz.prog 147 #[.int .i64 room] w fun e w' => e = .returned (.int .i64 ((1 + room / 36 : Nat) : Int)) ∧ w' = w := by
  have h0 : IntKind.i64.wrap ((room : Int) / 36) = ((room / 36 : Nat) : Int) := by rw [IntWalk.i64_in _ (by omega)]; omega
  have h1 : IntKind.i64.wrap (1 + ((room / 36 : Nat) : Int)) = ((1 + room / 36 : Nat) : Int) := by rw [IntWalk.i64_in _ (by omega)]; omega
  go_enter Tryz.func147, Tryz.ntmps147
  go_wp2
  go_ret
  exact ⟨rfl, rfl⟩

set_option maxHeartbeats 400000 in
theorem linkAt_any (k : Nat) (w : World) (hk : 1 ≤ k ∧ k ≤ 4) : Calls Tryz.prog 159 #[.int .i64 k] w fun e w' => e = .returned (.int .i64 ((2 * (k - 1) : Nat) : Int)) ∧ w' = w := by
  obtain ⟨m, rfl⟩ : ∃ m, k = m + 1 := ⟨k - 1, by omega⟩
  rcases (by omega : m = 0 ∨ m = 1 ∨ m = 2 ∨ m = 3) with rfl | rfl | rfl | rfl <;>
  · go_enter Tryz.func159, Tryz.ntmps159
    go_wp2
    go_ret
    exact ⟨rfl, rfl⟩

set_option maxHeartbeats 400000 in
theorem spot_any (at_ : Nat) (w : World) (h : at_ < 1008) : Calls Tryz.prog 188 #[.int .i64 at_] w fun e w' => e = .returned (.tuple #[.int .i64 ((8 + at_ / 2 : Nat) : Int), .int .i64 ((at_ % 2 * 4 : Nat) : Int)]) ∧ w' = w := by
  obtain ⟨q, hq⟩ : ∃ q, q = at_ / 2 := ⟨_, rfl⟩
  obtain ⟨r, hr⟩ : ∃ r, r = at_ % 2 := ⟨_, rfl⟩
  have h0 : IntKind.i64.wrap ((at_ : Int) / 2) = (q : Int) := by rw [IntWalk.i64_in _ (by omega)]; omega
  have h1 : IntKind.i64.wrap (8 + (q : Int)) = ((8 + q : Nat) : Int) := by rw [IntWalk.i64_in _ (by omega)]; omega
  have h2 : (at_ : Int).tmod 2 = (r : Int) := by rw [Int.tmod_eq_emod_of_nonneg (by omega)]; omega
  have h3 : (at_ : Int) % 2 = (r : Int) := by omega
  have h4 : IntKind.i64.wrap ((r : Int) * 4) = ((r * 4 : Nat) : Int) := by rw [IntWalk.i64_in _ (by omega)]; omega
  have h5 : (at_ : Int).tdiv 2 = (q : Int) := by rw [Int.tdiv_eq_ediv_of_nonneg (by omega)]; omega
  have h6 : IntKind.i64.wrap (q : Int) = (q : Int) := IntWalk.i64_in _ (by omega)
  have h7 : IntKind.i64.wrap (r : Int) = (r : Int) := IntWalk.i64_in _ (by omega)
  rw [← hq, ← hr]
  have HH := Lib.hid h
  clear hq hr h
  go_enter Tryz.func188, Tryz.ntmps188
  go_wp2
  go_ret2
  exact ⟨rfl, rfl⟩
end Go.Proofs.YtijggofelepaaaaGreatDoor

/- A heap's charts in plain words: marks of four bits, links of two bytes. -/
set_option maxRecDepth 100000
namespace Go.Proofs.YtijggofelepaaaaGreatDoor
open Go.RowKit

/-- The mark of page at_ of a chart. -/
def markB (b : List UInt8) (at_ : Nat) : Nat := (b.getD (8 + at_ / 2) 0).toNat / (if at_ % 2 = 0 then 1 else 16) % 16
/-- A byte with one of its two marks set. -/
def nib (x : UInt8) (at_ m : Nat) : UInt8 := if at_ % 2 = 0 then UInt8.ofNat (x.toNat / 16 * 16 + m) else UInt8.ofNat (x.toNat % 16 + m * 16)
def setB (b : List UInt8) (at_ m : Nat) : List UInt8 := splice b (8 + at_ / 2) [nib (b.getD (8 + at_ / 2) 0) at_ m]
theorem nib_same (x : UInt8) (at_ m : Nat) (hm : m < 16) : (nib x at_ m).toNat / (if at_ % 2 = 0 then 1 else 16) % 16 = m := by
  have := x.toNat_lt
  unfold nib
  by_cases h : at_ % 2 = 0
  · simp only [if_pos h]; rw [UInt8.toNat_ofNat']; omega
  · simp only [if_neg h]; rw [UInt8.toNat_ofNat']; omega
theorem nib_other (x : UInt8) (at_ j m : Nat) (hm : m < 16) (hj : j % 2 ≠ at_ % 2) : (nib x at_ m).toNat / (if j % 2 = 0 then 1 else 16) % 16 = x.toNat / (if j % 2 = 0 then 1 else 16) % 16 := by
  have := x.toNat_lt
  unfold nib
  by_cases h : at_ % 2 = 0
  · have h2 : ¬ j % 2 = 0 := by omega
    simp only [if_pos h, if_neg h2]; rw [UInt8.toNat_ofNat']; omega
  · have h2 : j % 2 = 0 := by omega
    simp only [if_neg h, if_pos h2]; rw [UInt8.toNat_ofNat']; omega
theorem getD_splice1 (b : List UInt8) (i : Nat) (x : UInt8) (h : i < b.length) (j : Nat) : (splice b i [x]).getD j 0 = if j = i then x else b.getD j 0 := by
  rw [List.getD_eq_getElem?_getD, splice_get _ _ _ (by simp; omega), List.getD_eq_getElem?_getD]
  by_cases hj : j = i
  · subst hj; rw [if_pos (by simp), if_pos rfl]; simp
  · rw [if_neg (by simp; omega), if_neg hj]
theorem setB_len (b : List UInt8) (at_ m : Nat) (hb : b.length = 512) (h : at_ < 1008) : (setB b at_ m).length = 512 := by
  unfold setB; rw [length_splice _ _ _ (by simp; omega), hb]
theorem markB_set (b : List UInt8) (hb : b.length = 512) (at_ m : Nat) (h : at_ < 1008) (hm : m < 16) (j : Nat) : markB (setB b at_ m) j = if j = at_ then m else markB b j := by
  unfold markB setB
  rw [getD_splice1 _ _ _ (by omega)]
  by_cases hj : j = at_
  · subst hj; rw [if_pos rfl, if_pos rfl, nib_same _ _ _ hm]
  · rw [if_neg hj]
    by_cases h2 : 8 + j / 2 = 8 + at_ / 2
    · rw [if_pos h2, nib_other _ _ _ _ hm (by omega), h2]
    · rw [if_neg h2]
/-- The page of chart k, as the first chart's bytes tell it (k from 1 on). -/
def linkB (b : List UInt8) (k : Nat) : Nat := (b.getD (2 * (k - 1)) 0).toNat * 256 + (b.getD (2 * (k - 1) + 1) 0).toNat
def setL (b : List UInt8) (k page : Nat) : List UInt8 := splice b (2 * (k - 1)) [UInt8.ofNat (page / 256), UInt8.ofNat page]
theorem linkB_setB (b : List UInt8) (hb : b.length = 512) (at_ m : Nat) (h : at_ < 1008) (j : Nat) (hj : 1 ≤ j ∧ j ≤ 4) : linkB (setB b at_ m) j = linkB b j := by
  unfold linkB setB
  rw [getD_splice1 _ _ _ (by omega), getD_splice1 _ _ _ (by omega), if_neg (by omega), if_neg (by omega)]
end Go.Proofs.YtijggofelepaaaaGreatDoor

/- A heap in plain words: its charts, its sheets, and how they turn. -/
set_option maxRecDepth 100000
namespace Go.Proofs.YtijggofelepaaaaGreatDoor
open Go.RowKit

/-- How many bytes a sheet has left for another row; the mark that tells of it. -/
def roomP (l : List Pl) : Nat := if ∀ p ∈ l, p.row ≠ [] then 0 else 512 - (1 + szP l)
def mkR (room : Nat) : Nat := 1 + room / 36
def mkP (l : List Pl) : Nat := if l = [] then 0 else mkR (roomP l)
theorem roomP_le (l : List Pl) : roomP l ≤ 511 := by unfold roomP; split <;> omega
theorem mkP_lt (l : List Pl) : mkP l < 16 := by
  have := roomP_le l
  unfold mkP mkR; split <;> omega
theorem mkP_zero (l : List Pl) : mkP l = 0 ↔ l = [] := by
  unfold mkP mkR
  by_cases h : l = []
  · rw [if_pos h]; simp [h]
  · rw [if_neg h]; simp [h]

/-- A heap stands on pages: chart k on page ch k (0: there is none), the sheet of page q is L q ([]: there is none). -/
structure HpOn (h : Hd) (G : Nat → List UInt8) (top : Nat) (L : Nat → List Pl) (ch : Nat → Nat) : Prop where
  root_ : ch 0 = top
  none_ : top = 0 → ∀ k, ch k = 0
  chas : ∀ k, ch k ≠ 0 → k < 5 ∧ h.has (ch k) ∧ (G (ch k)).length = 512
  link : top ≠ 0 → ∀ k, 1 ≤ k → k < 5 → linkB (G top) k = ch k
  inj : ∀ k j, ch k ≠ 0 → ch k = ch j → k = j
  mark : ∀ q, q < 5040 → ch (q / 1008) ≠ 0 → markB (G (ch (q / 1008))) (q % 1008) = mkP (L q)
  sheet : ∀ q, L q ≠ [] → h.has q ∧ q < 4096 ∧ ch (q / 1008) ≠ 0 ∧ G q = shP (L q) ∧ ShOk (L q) ∧ 0 < cntP (L q) ∧ ∀ k, ch k ≠ q

section
variable {h : Hd} {G : Nat → List UInt8} {top : Nat} {L : Nat → List Pl} {ch : Nat → Nat}
/-- A heap of no root. -/
theorem HpOn.empty (h : Hd) (G : Nat → List UInt8) : HpOn h G 0 (fun _ => []) (fun _ => 0) :=
  ⟨rfl, fun _ _ => rfl, fun _ hk => absurd rfl hk, fun ht => absurd rfl ht, fun _ _ hk => absurd rfl hk, fun _ _ hk => absurd rfl hk, fun _ hq => absurd rfl hq⟩
/-- What the pages hold is asked of the heap's own alone. -/
theorem HpOn.congr {h' : Hd} {G' : Nat → List UInt8} (x : HpOn h G top L ch) (hh : ∀ q, (∃ k, ch k = q ∧ q ≠ 0) ∨ L q ≠ [] → h'.has q) (hG : ∀ q, (∃ k, ch k = q ∧ q ≠ 0) ∨ L q ≠ [] → G' q = G q) : HpOn h' G' top L ch := by
  have hc : ∀ k, ch k ≠ 0 → G' (ch k) = G (ch k) := fun k hk => hG _ (.inl ⟨k, rfl, hk⟩)
  refine ⟨x.root_, x.none_, fun k hk => ?_, fun ht k h1 h5 => ?_, x.inj, fun q hq hk => ?_, fun q hq => ?_⟩
  · obtain ⟨a, _, c⟩ := x.chas k hk
    exact ⟨a, hh _ (.inl ⟨k, rfl, hk⟩), by rw [hc k hk]; exact c⟩
  · have h0 : ch 0 ≠ 0 := by rw [x.root_]; exact ht
    have := hc 0 h0
    rw [x.root_] at this
    rw [this]; exact x.link ht k h1 h5
  · rw [hc _ hk]; exact x.mark q hq hk
  · obtain ⟨_, b, c, d, e⟩ := x.sheet q hq
    exact ⟨hh q (.inr hq), b, c, by rw [hG q (.inr hq)]; exact d, e⟩
/-- The pages of a heap: at most as many sheets as rows, and five charts. -/
theorem HpOn.mark_at (x : HpOn h G top L ch) {q : Nat} (hq : q < 4096) : (if ch (q / 1008) = 0 then 0 else markB (G (ch (q / 1008))) (q % 1008)) = mkP (L q) := by
  by_cases h0 : ch (q / 1008) = 0
  · rw [if_pos h0]
    by_cases hl : L q = []
    · rw [(mkP_zero _).2 hl]
    · exact absurd h0 (x.sheet q hl).2.2.1
  · rw [if_neg h0]; exact x.mark q (by omega) h0
/-- A sheet is written, and its page's mark set. -/
theorem HpOn.put (x : HpOn h G top L ch) {q : Nat} {l : List Pl} (hq : h.has q) (h4 : q < 4096) (hc : ch (q / 1008) ≠ 0) (hk : ∀ k, ch k ≠ q) (hl : ShOk l) (hn : 0 < cntP l) :
    HpOn h (upd (upd G q (shP l)) (ch (q / 1008)) (setB (G (ch (q / 1008))) (q % 1008) (mkP l))) top (upd L q l) ch := by
  obtain ⟨c5, chs, clen⟩ := x.chas _ hc
  have hne : l ≠ [] := fun e => by rw [e] at hn; exact absurd hn (Nat.lt_irrefl 0)
  have hm : q % 1008 < 1008 := by omega
  have hG : ∀ j, j ≠ q / 1008 → ch j ≠ 0 → upd (upd G q (shP l)) (ch (q / 1008)) (setB (G (ch (q / 1008))) (q % 1008) (mkP l)) (ch j) = G (ch j) := fun j hj h0 => by
    rw [upd_other _ _ (fun e => hj (x.inj j _ h0 e)), upd_other _ _ (hk j)]
  refine ⟨x.root_, x.none_, fun k h0 => ?_, fun ht k h1 h5 => ?_, x.inj, fun r hr h0 => ?_, fun r hr => ?_⟩
  · obtain ⟨a, b, c⟩ := x.chas k h0
    refine ⟨a, b, ?_⟩
    by_cases hj : k = q / 1008
    · subst hj; rw [upd_same]; exact setB_len _ _ _ clen hm
    · rw [hG k hj h0]; exact c
  · have h0 : ch 0 ≠ 0 := by rw [x.root_]; exact ht
    rw [← x.link ht k h1 h5]
    rw [← x.root_]
    by_cases hj : 0 = q / 1008
    · have hc' : ch (q / 1008) = ch 0 := by rw [← hj]
      rw [hc', upd_same]
      exact linkB_setB _ (x.chas 0 h0).2.2 _ _ hm _ ⟨h1, by omega⟩
    · rw [hG 0 hj h0]
  · by_cases hj : r / 1008 = q / 1008
    · rw [hj, upd_same, markB_set _ clen _ _ hm (mkP_lt _)]
      by_cases hrq : r = q
      · subst hrq; rw [if_pos rfl, upd_same]
      · rw [if_neg (by omega), upd_other _ _ hrq, ← hj]
        rw [hj]
        have := x.mark r hr (by rw [hj]; exact hc)
        rw [hj] at this; exact this
    · rw [hG _ hj h0]
      have hrq : r ≠ q := fun e => hj (by rw [e])
      rw [upd_other _ _ hrq]; exact x.mark r hr h0
  · by_cases hrq : r = q
    · subst hrq
      rw [upd_same] at hr ⊢
      refine ⟨hq, h4, hc, ?_, hl, hn, hk⟩
      rw [upd_other _ _ (hk _).symm, upd_same]
    · rw [upd_other _ _ hrq] at hr ⊢
      obtain ⟨a, b, c, d, e, f, g⟩ := x.sheet r hr
      exact ⟨a, b, c, by rw [upd_other _ _ (g _).symm, upd_other _ _ hrq]; exact d, e, f, g⟩
/-- A page that holds no row any more is let go. -/
theorem HpOn.gone (x : HpOn h G top L ch) {h' : Hd} {q : Nat} (hh : ∀ r, h.has r → r ≠ q → h'.has r) (hc : ch (q / 1008) ≠ 0) (hk : ∀ k, ch k ≠ q) :
    HpOn h' (upd G (ch (q / 1008)) (setB (G (ch (q / 1008))) (q % 1008) 0)) top (upd L q []) ch := by
  obtain ⟨c5, chs, clen⟩ := x.chas _ hc
  have hm : q % 1008 < 1008 := by omega
  have hG : ∀ j, j ≠ q / 1008 → ch j ≠ 0 → upd G (ch (q / 1008)) (setB (G (ch (q / 1008))) (q % 1008) 0) (ch j) = G (ch j) := fun j hj h0 => upd_other _ _ (fun e => hj (x.inj j _ h0 e))
  refine ⟨x.root_, x.none_, fun k h0 => ?_, fun ht k h1 h5 => ?_, x.inj, fun r hr h0 => ?_, fun r hr => ?_⟩
  · obtain ⟨a, b, c⟩ := x.chas k h0
    refine ⟨a, hh _ b (hk k), ?_⟩
    by_cases hj : k = q / 1008
    · subst hj; rw [upd_same]; exact setB_len _ _ _ clen hm
    · rw [hG k hj h0]; exact c
  · have h0 : ch 0 ≠ 0 := by rw [x.root_]; exact ht
    rw [← x.link ht k h1 h5]
    rw [← x.root_]
    by_cases hj : 0 = q / 1008
    · have hc' : ch (q / 1008) = ch 0 := by rw [← hj]
      rw [hc', upd_same]
      exact linkB_setB _ (x.chas 0 h0).2.2 _ _ hm _ ⟨h1, by omega⟩
    · rw [hG 0 hj h0]
  · by_cases hj : r / 1008 = q / 1008
    · rw [hj, upd_same, markB_set _ clen _ _ hm (by omega)]
      by_cases hrq : r = q
      · subst hrq; rw [if_pos rfl, upd_same]; rfl
      · rw [if_neg (by omega), upd_other _ _ hrq]
        have := x.mark r hr (by rw [hj]; exact hc)
        rw [hj] at this; exact this
    · rw [hG _ hj h0]
      have hrq : r ≠ q := fun e => hj (by rw [e])
      rw [upd_other _ _ hrq]; exact x.mark r hr h0
  · by_cases hrq : r = q
    · subst hrq; rw [upd_same] at hr; exact absurd rfl hr
    · rw [upd_other _ _ hrq] at hr ⊢
      obtain ⟨a, b, c, d, e, f, g⟩ := x.sheet r hr
      exact ⟨hh r a hrq, b, c, by rw [upd_other _ _ (g _).symm]; exact d, e, f, g⟩
theorem markB_noughts (j : Nat) : markB noughts j = 0 := by
  unfold markB
  have : noughts.getD (8 + j / 2) 0 = 0 := by
    rw [noughts, List.getD_eq_getElem?_getD]
    by_cases h : 8 + j / 2 < 512
    · rw [List.getElem?_replicate, if_pos h]; rfl
    · rw [List.getElem?_eq_none (by simp; omega)]; rfl
  rw [this]; simp
theorem linkB_noughts (k : Nat) : linkB noughts k = 0 := by
  unfold linkB
  have : ∀ j, noughts.getD j 0 = 0 := fun j => by
    rw [noughts, List.getD_eq_getElem?_getD]
    by_cases h : j < 512
    · rw [List.getElem?_replicate, if_pos h]; rfl
    · rw [List.getElem?_eq_none (by simp; omega)]; rfl
  rw [this, this]; rfl
/-- A heap without charts has no sheets. -/
theorem HpOn.bare (x : HpOn h G 0 L ch) (q : Nat) : L q = [] := by
  refine Classical.byContradiction fun hq => ?_
  exact (x.sheet q hq).2.2.1 (x.none_ rfl _)
/-- The first chart is laid, on a page that is new. -/
theorem HpOn.first (x : HpOn h G 0 L ch) {h' : Hd} {p : Nat} (hp : h'.has p) (hp0 : p ≠ 0) : HpOn h' (upd G p noughts) p L (fun k => if k = 0 then p else 0) := by
  have hl := x.bare
  have hch : ∀ k, (if k = 0 then p else 0) ≠ 0 → k = 0 := fun k hk => Classical.byContradiction fun h => hk (if_neg h)
  refine ⟨rfl, fun e => absurd e hp0, fun k hk => ?_, fun _ k h1 h5 => ?_, fun k j hk e => ?_, fun q hq hk => ?_, fun q hq => absurd (hl q) hq⟩
  · obtain rfl := hch k hk
    refine ⟨by omega, hp, ?_⟩
    show (upd G p noughts p).length = 512
    rw [upd_same]; exact noughts_length
  · rw [upd_same, linkB_noughts, if_neg (by omega)]
  · obtain rfl := hch k hk
    obtain rfl := hch j (by rw [← e]; exact hk)
    rfl
  · have e := hch _ hk
    rw [if_pos e, upd_same, markB_noughts, hl q]; rfl
/-- A page that is none of the heap's comes. -/
theorem HpOn.alloc (x : HpOn h G top L ch) {h' : Hd} {p : Nat} (bs : List UInt8) (hh : ∀ r, h.has r → h'.has r) (hn : ¬ h.has p) : HpOn h' (upd G p bs) top L ch := by
  have hs : ∀ q, (∃ k, ch k = q ∧ q ≠ 0) ∨ L q ≠ [] → h.has q := fun q hq => by
    rcases hq with ⟨k, rfl, hk⟩ | hq
    · exact (x.chas k hk).2.1
    · exact (x.sheet q hq).1
  exact x.congr (fun q hq => hh q (hs q hq)) (fun q hq => upd_other _ _ (fun e => hn (e ▸ hs q hq)))
end
end Go.Proofs.YtijggofelepaaaaGreatDoor

/- Contracts: the heap of a root; what is no heap answers nothing. -/
set_option maxRecDepth 100000
namespace Go.Proofs.YtijggofelepaaaaGreatDoor
open Go.RowKit

/-- A heap at block hb, by the action at a, of the root r. -/
def HeapAt (w : World) (hb a r : Nat) : Prop := w.heap[hb]? = some (.cells #[.pointer (some ⟨hb, 0, none⟩), .pointer (some ⟨a, 0, none⟩), .int .i64 r] 115 (0, 0))
theorem HeapAt.lt {w : World} {tb a r : Nat} (h : HeapAt w tb a r) : tb < w.heap.size := (Array.getElem?_eq_some_iff.1 h).1
theorem HeapAt.c0 {w : World} {tb a r : Nat} (h : HeapAt w tb a r) : w.cell? ⟨tb, 0, none⟩ = some (.pointer (some ⟨tb, 0, none⟩)) := by rw [Lib.cell_of_heap h]; rfl
theorem HeapAt.c1 {w : World} {tb a r : Nat} (h : HeapAt w tb a r) : w.cell? ⟨tb, 1, none⟩ = some (.pointer (some ⟨a, 0, none⟩)) := by rw [Lib.cell_of_heap h]; rfl
theorem HeapAt.c2 {w : World} {tb a r : Nat} (h : HeapAt w tb a r) : w.cell? ⟨tb, 2, none⟩ = some (.int .i64 r) := by rw [Lib.cell_of_heap h]; rfl
theorem HeapAt.kept {w w' : World} {tb a r : Nat} {T : Nat → Prop} (h : HeapAt w tb a r) (hk : Kept T w w') (hT : ¬ T tb) : HeapAt w' tb a r := by
  unfold HeapAt; rw [hk.block tb h.lt hT]; exact h
theorem HeapAt.below {w w' : World} {tb a r : Nat} (h : HeapAt w tb a r) (hb : Below w.heap.size w w') : HeapAt w' tb a r := h.kept (Kept.ofBelow (S := fun _ => False) hb) (fun h => h)

theorem sizeHp : (Tryz.prog.info? 115).map (·.size) = some 3 := by kernel_rfl
/-! ### Heaps that nobody made -/
/-- What is no heap. -/
def NoHeap (v : Value) (w : World) : Prop := Calls Tryz.prog 99 #[v] w fun e w' => e = .returned (.int .i64 1) ∧ w' = w
section
variable {J : List RawOp → Prop} {B : Nat} {S : Nat → Prop} {c : Ac} {h : Hd} {G : Nat → List UInt8} {w : World} {hb r : Nat}
set_option maxHeartbeats 800000 in
theorem hp_new (x : ActV J B S c h G w) (r : Nat) (hr : r < 16) :
    Calls Tryz.prog 24 #[.pointer (some ⟨c.a, 0, none⟩), .int .i64 r] w fun e w' => ∃ tb, e = .returned (.tuple #[.pointer (some ⟨tb, 0, none⟩), .int .i64 0]) ∧ HeapAt w' tb c.a r ∧ w.heap.size ≤ tb ∧ Below w.heap.size w w' := by
  have HRT := Lib.hid (root_v x r hr)
  have h2 : ¬ (r : Int) < 0 := by omega
  have h3 : ¬ (16 : Int) ≤ (r : Int) := by omega
  obtain ⟨rt, hrt⟩ : ∃ rt, rt = h.root r := ⟨_, rfl⟩
  rw [← hrt] at HRT
  obtain ⟨a, ha⟩ : ∃ a, a = c.a := ⟨_, rfl⟩
  rw [← ha] at HRT ⊢
  clear x hrt ha
  have HE : Hid (HeapAt (w.alloc (.cells #[.pointer (some ⟨w.heap.size, 0, none⟩), .pointer (some ⟨a, 0, none⟩), .int .i64 r] 115)) w.heap.size a r ∧ Below w.heap.size w (w.alloc (.cells #[.pointer (some ⟨w.heap.size, 0, none⟩), .pointer (some ⟨a, 0, none⟩), .int .i64 r] 115))) := Lib.hid ⟨heap_alloc_new w _, (Below.refl _ _).alloc (Nat.le_refl _) _⟩
  go_enter Tryz.func24, Tryz.ntmps24
  go_wp2_with fail
  refine HRT.out.mono ?_
  rintro e w1 ⟨rfl, hw⟩
  subst w1
  go_wp2
  go_ret2
  exact ⟨_, rfl, HE.out.1, Nat.le_refl _, HE.out.2⟩

set_option maxHeartbeats 1600000 in
theorem hp_live (x : ActV J B S c h G w) (ht : HeapAt w hb c.a r) (hr : r < 16) :
    Calls Tryz.prog 99 #[.pointer (some ⟨hb, 0, none⟩)] w fun e w' => e = .returned (.int .i64 0) ∧ ∃ k, w' = w.drewN k := by
  have HRT : Hid (∀ k, Calls Tryz.prog 12 #[.pointer (some ⟨c.a, 0, none⟩), .int .i64 r] (w.drewN k) fun e w' => e = .returned (.tuple #[.int .i64 (h.root r), .int .i64 0]) ∧ w' = w.drewN k) := Lib.hid fun k => root_v (x.below (below_drewN w k)) r hr
  have c0 := ht.c0
  have c1 := ht.c1
  have c2 := ht.c2
  obtain ⟨rt, hrt⟩ : ∃ rt, rt = h.root r := ⟨_, rfl⟩
  rw [← hrt] at HRT
  clear x ht hrt
  obtain ⟨j, hj, _⟩ := Option.map_eq_some_iff.1 sizeHp
  have hq := Lib.run_neq_ptr_same (P := Tryz.prog) w (tp := 70) (te := 115) ⟨hb, 0, none⟩ Tryz.underlying70 hj
  go_enter Tryz.func99, Tryz.ntmps99
  go_wp2
  go_quiet ((go_at_call 12; exact Calls.quiet_of_same (HRT.out _)))
  go_wp2
  go_ret
  exact ⟨rfl, _, rfl⟩
end
end Go.Proofs.YtijggofelepaaaaGreatDoor

/- Contracts: a mark of a chart; a chart of a heap; a page's mark. -/
set_option maxRecDepth 100000
namespace Go.Proofs.YtijggofelepaaaaGreatDoor
open Go.RowKit

theorem and15 (n : Int) : bits .and .i64 n 15 = n % 16 := by
  have h7 : (BitVec.ofInt 64 15).toNat = 2 ^ 4 - 1 := by decide
  have key : (BitVec.ofInt 64 n &&& BitVec.ofInt 64 15).toNat = (n % ((2 ^ 64 : Nat) : Int)).toNat % 2 ^ 4 := by
    rw [BitVec.toNat_and, BitVec.toNat_ofInt, h7, Nat.and_two_pow_sub_one_eq_mod]
  show IntKind.i64.wrap ((BitVec.ofInt 64 n &&& BitVec.ofInt 64 15).toNat : Nat) = n % 16
  rw [key, IntKind.wrap_i64]
  omega
theorem ret_ih {a b : Int} (h : a = b) : Ending.returned (.int .i64 a) = .returned (.int .i64 b) := by rw [h]
theorem mk_in (x : UInt8) (at_ k : Nat) (hk : k = at_ % 2 * 4) : bits .and .i64 (wrap64 ((x.toNat : Int) / 2 ^ k)) 15 = ((x.toNat / (if at_ % 2 = 0 then 1 else 16) % 16 : Nat) : Int) := by
  have hx := x.toNat_lt
  rw [and15]
  rcases (by omega : at_ % 2 = 0 ∨ at_ % 2 = 1) with h | h
  · rw [h] at hk ⊢
    subst hk
    show wrap64 ((x.toNat : Int) / 1) % 16 = ((x.toNat / 1 % 16 : Nat) : Int)
    rw [show wrap64 ((x.toNat : Int) / 1) = (x.toNat : Int) / 1 from IntWalk.wrap64_in _ (by omega)]
    omega
  · rw [h] at hk ⊢
    subst hk
    show wrap64 ((x.toNat : Int) / 16) % 16 = ((x.toNat / 16 % 16 : Nat) : Int)
    rw [show wrap64 ((x.toNat : Int) / 16) = (x.toNat : Int) / 16 from IntWalk.wrap64_in _ (by omega)]
    omega

set_option maxHeartbeats 800000 in
theorem markIn_any (b : List UInt8) (at_ : Nat) (w : World) (h : at_ < 1008) (hb : b.length = 512) :
    Calls Tryz.prog 155 #[.string ⟨b.toArray⟩, .int .i64 at_] w fun e w' => e = .returned (.int .i64 (markB b at_)) ∧ w' = w := by
  have HS := Lib.hid (spot_any at_ w h)
  obtain ⟨i, hi⟩ : ∃ i, i = 8 + at_ / 2 := ⟨_, rfl⟩
  obtain ⟨k, hk⟩ : ∃ k, k = at_ % 2 * 4 := ⟨_, rfl⟩
  have hi5 : i < 512 := by omega
  have hk5 : k < 8 := by omega
  obtain ⟨s, hs⟩ : ∃ s : ByteArray, s = ⟨b.toArray⟩ := ⟨_, rfl⟩
  have hsz : s.size = 512 := by rw [hs, ← hb]; rfl
  have HX : Hid (∀ h : i < s.size, bits .and .i64 (wrap64 (((s[i]'h).toNat : Int) / 2 ^ k)) 15 = (markB b at_ : Int)) := Lib.hid fun h => by
    rw [mk_in _ at_ k hk]
    unfold markB
    rw [← hi, List.getD_eq_getElem?_getD, List.getElem?_eq_getElem (by omega)]
    subst hs
    rfl
  have hlt : i < s.size := by omega
  rw [← hi, ← hk] at HS
  rw [← hs]
  obtain ⟨m, hm⟩ : ∃ m, m = markB b at_ := ⟨_, rfl⟩
  rw [← hm] at HX ⊢
  clear hi hk hb hs hm
  go_enter Tryz.func155, Tryz.ntmps155
  go_wp2_with fail
  refine HS.out.mono ?_
  rintro e w1 ⟨rfl, hw⟩
  subst w1
  go_wp2
  go_ret
  exact ⟨ret_ih (HX.out hlt), rfl⟩

section
variable {J : List RawOp → Prop} {B : Nat} {S : Nat → Prop} {c : Ac} {h : Hd} {G : Nat → List UInt8} {w : World} {hb r : Nat}
/-- Which page is a heap's chart, by its root: 0, if there is none. -/
def chQ (h : Hd) (G : Nat → List UInt8) (r k : Nat) : Nat :=
  if h.has (h.root r) then if k = 0 then h.root r else if h.has (linkB (G (h.root r)) k) then linkB (G (h.root r)) k else 0 else 0

/-- What chart's call leaves. -/
def ChPost (J : List RawOp → Prop) (B : Nat) (S : Nat → Prop) (c : Ac) (h : Hd) (G : Nat → List UInt8) (q : Nat) (w : World) (e : Ending) (w' : World) : Prop :=
  e = .returned (.tuple #[.int .i64 q, .string (if q = 0 then ⟨#[]⟩ else ⟨(G q).toArray⟩)]) ∧ ActPost J B S c h G w w'

set_option maxHeartbeats 1600000 in
theorem chart_none (x : ActV J B S c h G w) (ht : HeapAt w hb c.a r) (hr : r < 16) (k : Nat) (hn : ¬ h.has (h.root r)) :
    Calls Tryz.prog 114 #[.pointer (some ⟨hb, 0, none⟩), .int .i64 k] w (ChPost J B S c h G 0 w) := by
  have HRT : Hid (∀ k, Calls Tryz.prog 12 #[.pointer (some ⟨c.a, 0, none⟩), .int .i64 r] (w.drewN k) fun e w' => e = .returned (.tuple #[.int .i64 (h.root r), .int .i64 0]) ∧ w' = w.drewN k) := Lib.hid fun k => root_v (x.below (below_drewN w k)) r hr
  have HRD : Hid (∀ W, Below w.heap.size w W → Calls Tryz.prog 10 #[.pointer (some ⟨c.a, 0, none⟩), .int .i64 (h.root r)] W fun e w' => e = .returned (.tuple #[.string ⟨#[]⟩, .int .i64 3]) ∧ w' = W) := Lib.hid fun W hW => read_v_none (x.below hW) (h.root r : Int) (fun e => hn (by simpa using e.2))
  have HX : Hid (∀ n, ActPost J B S c h G w (w.drewN n)) := Lib.hid fun n => ⟨S, Turn.ofBelow (below_drewN w n), x.below (below_drewN w n)⟩
  have c1 := ht.c1
  have c2 := ht.c2
  obtain ⟨rt, hrt⟩ : ∃ rt, rt = h.root r := ⟨_, rfl⟩
  rw [← hrt] at HRT HRD
  have hk : k = 0 ∨ 0 < (k : Int) := by omega
  unfold ChPost
  clear x ht hn hrt
  go_enter Tryz.func114, Tryz.ntmps114
  go_wp2
  go_quiet ((go_at_call 12; exact Calls.quiet_of_same (HRT.out _)))
  go_wp2_with fail
  refine (HRD.out _ (below_drewN w _)).mono ?_
  rintro e w1 ⟨rfl, hw⟩
  subst w1
  rcases hk with rfl | hk
  · go_wp2
    go_ret2
    exact ⟨rfl, HX.out _⟩
  · go_wp2
    go_ret2
    exact ⟨rfl, HX.out _⟩

set_option maxHeartbeats 1600000 in
theorem chart_first (x : ActV J B S c h G w) (ht : HeapAt w hb c.a r) (hr : r < 16) (hn : h.has (h.root r)) :
    Calls Tryz.prog 114 #[.pointer (some ⟨hb, 0, none⟩), .int .i64 0] w (ChPost J B S c h G (h.root r) w) := by
  have hq0 : h.root r ≠ 0 := by have := hn.1; omega
  have HRT : Hid (∀ k, Calls Tryz.prog 12 #[.pointer (some ⟨c.a, 0, none⟩), .int .i64 r] (w.drewN k) fun e w' => e = .returned (.tuple #[.int .i64 (h.root r), .int .i64 0]) ∧ w' = w.drewN k) := Lib.hid fun k => root_v (x.below (below_drewN w k)) r hr
  have HRD : Hid (∀ n, Calls Tryz.prog 10 #[.pointer (some ⟨c.a, 0, none⟩), .int .i64 (h.root r)] (w.drewN n) fun e w' => e = .returned (.tuple #[.string ⟨(G (h.root r)).toArray⟩, .int .i64 0]) ∧ ActPost J B S c h G w w') := Lib.hid fun n => (read_v (x.below (below_drewN w n)) (h.root r) hn).mono fun e w' ⟨he, S', hT, hA⟩ => ⟨he, S', (Turn.ofBelow (below_drewN w n)).trans hT, hA⟩
  have c1 := ht.c1
  have c2 := ht.c2
  obtain ⟨rt, hrt⟩ : ∃ rt, rt = h.root r := ⟨_, rfl⟩
  unfold ChPost
  rw [← hrt] at HRT HRD hq0 ⊢
  rw [if_neg hq0]
  obtain ⟨s, hs⟩ : ∃ s : ByteArray, s = ⟨(G rt).toArray⟩ := ⟨_, rfl⟩
  rw [← hs] at HRD ⊢
  clear x ht hn hrt hs hq0
  go_enter Tryz.func114, Tryz.ntmps114
  go_wp2
  go_quiet ((go_at_call 12; exact Calls.quiet_of_same (HRT.out _)))
  go_wp2_with fail
  refine (HRD.out _).mono ?_
  rintro e w1 ⟨rfl, hA⟩
  have HA := Lib.hid hA
  clear hA
  go_wp2
  go_ret2
  exact ⟨rfl, HA.out⟩

theorem link_any (s : ByteArray) (b : List UInt8) (hs : s = ⟨b.toArray⟩) (hb : b.length = 512) (k : Nat) (hk : 1 ≤ k ∧ k ≤ 4) (h1 : 2 * (k - 1) < s.size) (h2 : 2 * (k - 1) + 1 < s.size) :
    bits BinOp.or IntKind.i64 (((s[2 * (k - 1)]'h1).toNat : Int) * 256) ((s[2 * (k - 1) + 1]'h2).toNat : Int) = (linkB b k : Int) := by
  rw [or_i64 (s[2 * (k - 1)]'h1).toNat (s[2 * (k - 1) + 1]'h2).toNat (by have := (s[2 * (k - 1)]'h1).toNat_lt; omega) (UInt8.toNat_lt _)]
  unfold linkB
  rw [List.getD_eq_getElem?_getD, List.getD_eq_getElem?_getD, List.getElem?_eq_getElem (by omega), List.getElem?_eq_getElem (by omega)]
  subst hs
  rfl

set_option maxHeartbeats 3200000 in
theorem chart_more (x : ActV J B S c h G w) (ht : HeapAt w hb c.a r) (hS : ¬ S hb) (hr : r < 16) (k : Nat) (hk : 1 ≤ k ∧ k ≤ 4) (hn : h.has (h.root r)) (hG : (G (h.root r)).length = 512) (hl : h.has (linkB (G (h.root r)) k)) :
    Calls Tryz.prog 114 #[.pointer (some ⟨hb, 0, none⟩), .int .i64 k] w (ChPost J B S c h G (linkB (G (h.root r)) k) w) := by
  have hq0 : linkB (G (h.root r)) k ≠ 0 := by have := hl.1; omega
  have HRT : Hid (∀ k, Calls Tryz.prog 12 #[.pointer (some ⟨c.a, 0, none⟩), .int .i64 r] (w.drewN k) fun e w' => e = .returned (.tuple #[.int .i64 (h.root r), .int .i64 0]) ∧ w' = w.drewN k) := Lib.hid fun k => root_v (x.below (below_drewN w k)) r hr
  have HRD : Hid (∀ n, Calls Tryz.prog 10 #[.pointer (some ⟨c.a, 0, none⟩), .int .i64 (h.root r)] (w.drewN n) fun e w' => e = .returned (.tuple #[.string ⟨(G (h.root r)).toArray⟩, .int .i64 0]) ∧ ActPost J B S c h G w w' ∧ HeapAt w' hb c.a r) := Lib.hid fun n => (read_v (x.below (below_drewN w n)) (h.root r) hn).mono fun e w' ⟨he, S', hT, hA⟩ => ⟨he, ⟨S', (Turn.ofBelow (below_drewN w n)).trans hT, hA⟩, (ht.below (below_drewN w n)).kept hT.1 hS⟩
  have HRE : Hid (∀ W, ActPost J B S c h G w W → ∀ n, Calls Tryz.prog 10 #[.pointer (some ⟨c.a, 0, none⟩), .int .i64 (linkB (G (h.root r)) k)] (W.drewN n) fun e w' => e = .returned (.tuple #[.string ⟨(G (linkB (G (h.root r)) k)).toArray⟩, .int .i64 0]) ∧ ActPost J B S c h G w w') := Lib.hid fun W ⟨S1, hT1, hA1⟩ n => (read_v (hA1.below (below_drewN W n)) _ hl).mono fun e w' ⟨he, S', hT, hA⟩ => ⟨he, S', hT1.trans ((Turn.ofBelow (below_drewN W n)).trans hT), hA⟩
  have HLA : Hid (∀ W, Calls Tryz.prog 159 #[.int .i64 k] W fun e w' => e = .returned (.int .i64 ((2 * (k - 1) : Nat) : Int)) ∧ w' = W) := Lib.hid fun W => linkAt_any k W hk
  have c1 := ht.c1
  have c2 := ht.c2
  obtain ⟨rt, hrt⟩ : ∃ rt, rt = h.root r := ⟨_, rfl⟩
  unfold ChPost
  rw [← hrt] at HRT HRD HRE hq0 hG ⊢
  rw [if_neg hq0]
  obtain ⟨s, hs⟩ : ∃ s : ByteArray, s = ⟨(G rt).toArray⟩ := ⟨_, rfl⟩
  have hsz : s.size = 512 := by rw [hs, ← hG]; rfl
  obtain ⟨i, hi⟩ : ∃ i, i = 2 * (k - 1) := ⟨_, rfl⟩
  have HLK : Hid (∀ (h1 : i < s.size) (h2 : i + 1 < s.size), bits BinOp.or IntKind.i64 (((s[i]'h1).toNat : Int) * 256) ((s[i + 1]'h2).toNat : Int) = (linkB (G rt) k : Int)) := Lib.hid (by rw [hi]; exact fun h1 h2 => link_any s (G rt) hs hG k hk h1 h2)
  obtain ⟨q, hq⟩ : ∃ q, q = linkB (G rt) k := ⟨_, rfl⟩
  rw [← hq] at HRE HLK hq0 ⊢
  rw [← hs] at HRD
  obtain ⟨t, ht2⟩ : ∃ t : ByteArray, t = ⟨(G q).toArray⟩ := ⟨_, rfl⟩
  rw [← ht2] at HRE ⊢
  rw [← hi] at HLA
  have hk0 : 0 < (k : Int) := by omega
  have hw2 : wrap64 ((i : Int) + 1) = (i : Int) + 1 := IntWalk.wrap64_in _ ⟨by omega, by omega⟩
  obtain ⟨v0, hv0⟩ : ∃ v0, v0 = (s[i]'(by omega)).toNat := ⟨_, rfl⟩
  obtain ⟨v1, hv1⟩ : ∃ v1, v1 = (s[i + 1]'(by omega)).toNat := ⟨_, rfl⟩
  have hr1 : ∀ W, (Instr.index 9 (.string s) (.int .i64 (i : Int))).run Tryz.prog W = .ok (.int .u8 (v0 : Int)) W := fun W => by
    rw [run_index_string W _ _ _ _ (by kernel_rfl), dif_pos ⟨by omega, by omega⟩, hv0]; rfl
  have hr2 : ∀ W, (Instr.index 9 (.string s) (.int .i64 ((i : Int) + 1))).run Tryz.prog W = .ok (.int .u8 (v1 : Int)) W := fun W => by
    rw [run_index_string W _ _ _ _ (by kernel_rfl), dif_pos ⟨by omega, by omega⟩, hv1]; rfl
  have HOR : Hid (bits BinOp.or IntKind.i64 ((v0 : Int) * 256) (v1 : Int) = (q : Int)) := Lib.hid (by rw [hv0, hv1]; exact HLK.out _ _)
  have hv0l : v0 < 256 := by rw [hv0]; exact UInt8.toNat_lt _
  have hv1l : v1 < 256 := by rw [hv1]; exact UInt8.toNat_lt _
  clear HLK hv0 hv1
  clear x ht hS hn hrt hs hq0 hl hq ht2 hG hk hi
  go_enter Tryz.func114, Tryz.ntmps114
  go_wp2
  go_quiet ((go_at_call 12; exact Calls.quiet_of_same (HRT.out _)))
  go_wp2_with fail
  refine (HRD.out _).mono ?_
  rintro e w1 ⟨rfl, hA, hH⟩
  have HA := Lib.hid hA
  have d1 := hH.c1
  clear hA hH
  go_wp2_with fail
  refine (HLA.out _).mono ?_
  rintro e w2 ⟨rfl, hw⟩
  subst w2
  go_wp2
  go_quiet (fail)
  rw [HOR.out]
  go_wp2_with fail
  refine (HRE.out _ HA.out _).mono ?_
  rintro e w3 ⟨rfl, hA3⟩
  have HA3 := Lib.hid hA3
  clear hA3 HA
  go_wp2
  go_ret2
  exact ⟨rfl, HA3.out⟩

set_option maxHeartbeats 3200000 in
theorem chart_less (x : ActV J B S c h G w) (ht : HeapAt w hb c.a r) (hS : ¬ S hb) (hr : r < 16) (k : Nat) (hk : 1 ≤ k ∧ k ≤ 4) (hn : h.has (h.root r)) (hG : (G (h.root r)).length = 512) (hl : ¬ h.has (linkB (G (h.root r)) k)) :
    Calls Tryz.prog 114 #[.pointer (some ⟨hb, 0, none⟩), .int .i64 k] w (ChPost J B S c h G 0 w) := by
  have HRT : Hid (∀ k, Calls Tryz.prog 12 #[.pointer (some ⟨c.a, 0, none⟩), .int .i64 r] (w.drewN k) fun e w' => e = .returned (.tuple #[.int .i64 (h.root r), .int .i64 0]) ∧ w' = w.drewN k) := Lib.hid fun k => root_v (x.below (below_drewN w k)) r hr
  have HRD : Hid (∀ n, Calls Tryz.prog 10 #[.pointer (some ⟨c.a, 0, none⟩), .int .i64 (h.root r)] (w.drewN n) fun e w' => e = .returned (.tuple #[.string ⟨(G (h.root r)).toArray⟩, .int .i64 0]) ∧ ActPost J B S c h G w w' ∧ HeapAt w' hb c.a r) := Lib.hid fun n => (read_v (x.below (below_drewN w n)) (h.root r) hn).mono fun e w' ⟨he, S', hT, hA⟩ => ⟨he, ⟨S', (Turn.ofBelow (below_drewN w n)).trans hT, hA⟩, (ht.below (below_drewN w n)).kept hT.1 hS⟩
  have HRE : Hid (∀ W, ActPost J B S c h G w W → ∀ n, Calls Tryz.prog 10 #[.pointer (some ⟨c.a, 0, none⟩), .int .i64 (linkB (G (h.root r)) k)] (W.drewN n) fun e w' => e = .returned (.tuple #[.string ⟨#[]⟩, .int .i64 3]) ∧ ActPost J B S c h G w w') := Lib.hid fun W ⟨S1, hT1, hA1⟩ n => (read_v_none (hA1.below (below_drewN W n)) _ (fun e => hl (by simpa using e.2))).mono fun e w' ⟨he, hw⟩ => ⟨he, S1, hw ▸ hT1.trans (Turn.ofBelow (below_drewN W n)), hw ▸ hA1.below (below_drewN W n)⟩
  have HLA : Hid (∀ W, Calls Tryz.prog 159 #[.int .i64 k] W fun e w' => e = .returned (.int .i64 ((2 * (k - 1) : Nat) : Int)) ∧ w' = W) := Lib.hid fun W => linkAt_any k W hk
  have c1 := ht.c1
  have c2 := ht.c2
  obtain ⟨rt, hrt⟩ : ∃ rt, rt = h.root r := ⟨_, rfl⟩
  unfold ChPost
  rw [← hrt] at HRT HRD HRE hG
  obtain ⟨s, hs⟩ : ∃ s : ByteArray, s = ⟨(G rt).toArray⟩ := ⟨_, rfl⟩
  have hsz : s.size = 512 := by rw [hs, ← hG]; rfl
  obtain ⟨i, hi⟩ : ∃ i, i = 2 * (k - 1) := ⟨_, rfl⟩
  have HLK : Hid (∀ (h1 : i < s.size) (h2 : i + 1 < s.size), bits BinOp.or IntKind.i64 (((s[i]'h1).toNat : Int) * 256) ((s[i + 1]'h2).toNat : Int) = (linkB (G rt) k : Int)) := Lib.hid (by rw [hi]; exact fun h1 h2 => link_any s (G rt) hs hG k hk h1 h2)
  obtain ⟨q, hq⟩ : ∃ q, q = linkB (G rt) k := ⟨_, rfl⟩
  rw [← hq] at HRE HLK
  rw [← hs] at HRD
  rw [← hi] at HLA
  have hk0 : 0 < (k : Int) := by omega
  have hw2 : wrap64 ((i : Int) + 1) = (i : Int) + 1 := IntWalk.wrap64_in _ ⟨by omega, by omega⟩
  obtain ⟨v0, hv0⟩ : ∃ v0, v0 = (s[i]'(by omega)).toNat := ⟨_, rfl⟩
  obtain ⟨v1, hv1⟩ : ∃ v1, v1 = (s[i + 1]'(by omega)).toNat := ⟨_, rfl⟩
  have hr1 : ∀ W, (Instr.index 9 (.string s) (.int .i64 (i : Int))).run Tryz.prog W = .ok (.int .u8 (v0 : Int)) W := fun W => by
    rw [run_index_string W _ _ _ _ (by kernel_rfl), dif_pos ⟨by omega, by omega⟩, hv0]; rfl
  have hr2 : ∀ W, (Instr.index 9 (.string s) (.int .i64 ((i : Int) + 1))).run Tryz.prog W = .ok (.int .u8 (v1 : Int)) W := fun W => by
    rw [run_index_string W _ _ _ _ (by kernel_rfl), dif_pos ⟨by omega, by omega⟩, hv1]; rfl
  have HOR : Hid (bits BinOp.or IntKind.i64 ((v0 : Int) * 256) (v1 : Int) = (q : Int)) := Lib.hid (by rw [hv0, hv1]; exact HLK.out _ _)
  have hv0l : v0 < 256 := by rw [hv0]; exact UInt8.toNat_lt _
  have hv1l : v1 < 256 := by rw [hv1]; exact UInt8.toNat_lt _
  clear HLK hv0 hv1
  clear x ht hS hn hrt hs hl hq hG hk hi
  go_enter Tryz.func114, Tryz.ntmps114
  go_wp2
  go_quiet ((go_at_call 12; exact Calls.quiet_of_same (HRT.out _)))
  go_wp2_with fail
  refine (HRD.out _).mono ?_
  rintro e w1 ⟨rfl, hA, hH⟩
  have HA := Lib.hid hA
  have d1 := hH.c1
  clear hA hH
  go_wp2_with fail
  refine (HLA.out _).mono ?_
  rintro e w2 ⟨rfl, hw⟩
  subst w2
  go_wp2
  go_quiet (fail)
  rw [HOR.out]
  go_wp2_with fail
  refine (HRE.out _ HA.out _).mono ?_
  rintro e w3 ⟨rfl, hA3⟩
  have HA3 := Lib.hid hA3
  clear hA3 HA
  go_wp2
  go_ret2
  exact ⟨rfl, HA3.out⟩

/-- A chart of a heap. -/
theorem chart_any (x : ActV J B S c h G w) (ht : HeapAt w hb c.a r) (hS : ¬ S hb) (hr : r < 16) (k : Nat) (hk : k ≤ 4) (hG : h.has (h.root r) → (G (h.root r)).length = 512) :
    Calls Tryz.prog 114 #[.pointer (some ⟨hb, 0, none⟩), .int .i64 k] w (ChPost J B S c h G (chQ h G r k) w) := by
  unfold chQ
  by_cases hn : h.has (h.root r)
  · rw [if_pos hn]
    by_cases h0 : k = 0
    · subst h0
      rw [if_pos rfl]
      exact chart_first x ht hr hn
    · rw [if_neg h0]
      by_cases hl : h.has (linkB (G (h.root r)) k)
      · rw [if_pos hl]; exact chart_more x ht hS hr k ⟨by omega, hk⟩ hn (hG hn) hl
      · rw [if_neg hl]; exact chart_less x ht hS hr k ⟨by omega, hk⟩ hn (hG hn) hl
  · rw [if_neg hn]; exact chart_none x ht hr k hn
end
end Go.Proofs.YtijggofelepaaaaGreatDoor

/- A sheet in memory; the address of a place. -/
set_option maxRecDepth 100000
namespace Go.Proofs.YtijggofelepaaaaGreatDoor
open Go.RowKit

/-- The cells of places, one behind the other; of a sheet. -/
def plCells : List Pl → List Value
  | [] => []
  | p :: r => .string ⟨p.row.toArray⟩ :: .bool p.dead :: plCells r
theorem plCells_len : ∀ l : List Pl, (plCells l).length = 2 * l.length
  | [] => rfl
  | p :: r => by simp only [plCells, List.length_cons]; rw [plCells_len r]; omega
theorem plCells_at : ∀ (l : List Pl) (k : Nat) (p : Pl), l[k]? = some p → (plCells l)[2 * k]? = some (.string ⟨p.row.toArray⟩) ∧ (plCells l)[2 * k + 1]? = some (.bool p.dead)
  | [], k, p, h => by simp at h
  | x :: r, 0, p, h => by simp at h; subst h; exact ⟨rfl, rfl⟩
  | x :: r, k + 1, p, h => by
    have h' : r[k]? = some p := by simpa using h
    have := plCells_at r k p h'
    rw [show 2 * (k + 1) = 2 * k + 2 by omega, show 2 * k + 2 + 1 = 2 * k + 1 + 2 by omega]
    simp only [plCells, List.getElem?_cons_succ]
    exact this
theorem plCells_set : ∀ (l : List Pl) (k : Nat) (p : Pl), plCells (l.set k p) = ((plCells l).set (2 * k) (.string ⟨p.row.toArray⟩)).set (2 * k + 1) (.bool p.dead)
  | [], k, p => by simp [plCells]
  | x :: r, 0, p => by simp [plCells]
  | x :: r, k + 1, p => by
    rw [show 2 * (k + 1) = 2 * k + 2 by omega, show 2 * k + 2 + 1 = 2 * k + 1 + 2 by omega]
    simp only [List.set_cons_succ, plCells]
    rw [plCells_set r k p]

/-- A sheet at block sb: its page, its places. -/
def SheetAt (w : World) (sb q : Nat) (l : List Pl) : Prop := w.heap[sb]? = some (.cells (.int .i64 q :: plCells l).toArray 168 (0, 0))
section
variable {w w' : World} {sb q : Nat} {l : List Pl}
theorem SheetAt.lt (h : SheetAt w sb q l) : sb < w.heap.size := (Array.getElem?_eq_some_iff.1 h).1
theorem SheetAt.kept {T : Nat → Prop} (h : SheetAt w sb q l) (hk : Kept T w w') (hT : ¬ T sb) : SheetAt w' sb q l := by
  unfold SheetAt; rw [hk.block sb h.lt hT]; exact h
theorem SheetAt.below (h : SheetAt w sb q l) (hb : Below w.heap.size w w') : SheetAt w' sb q l := h.kept (Kept.ofBelow (S := fun _ => False) hb) (fun h => h)
theorem SheetAt.c0 (h : SheetAt w sb q l) : w.cell? ⟨sb, 0, none⟩ = some (.int .i64 q) := by rw [Lib.cell_of_heap h]; rfl
theorem SheetAt.row (h : SheetAt w sb q l) {k : Nat} {p : Pl} (hp : l[k]? = some p) : w.cell? ⟨sb, 1 + 2 * k, none⟩ = some (.string ⟨p.row.toArray⟩) := by
  rw [Lib.cell_of_heap h, List.getElem?_toArray, show 1 + 2 * k = 2 * k + 1 by omega, List.getElem?_cons_succ]
  exact (plCells_at l k p hp).1
theorem SheetAt.dead (h : SheetAt w sb q l) {k : Nat} {p : Pl} (hp : l[k]? = some p) : w.cell? ⟨sb, 1 + 2 * k + 1, none⟩ = some (.bool p.dead) := by
  rw [Lib.cell_of_heap h, List.getElem?_toArray, show 1 + 2 * k + 1 = 2 * k + 1 + 1 by omega, List.getElem?_cons_succ]
  exact (plCells_at l k p hp).2

theorem tid_any (h : SheetAt w sb q l) (hq : q < 4096) (k : Nat) (hk : k < 64) : Calls Tryz.prog 104 #[.pointer (some ⟨sb, 0, none⟩), .int .i64 k] w fun e w' => e = .returned (.int .i64 ((q * 64 + k : Nat) : Int)) ∧ w' = w := by
  have c0 := h.c0
  have h1 : IntKind.i64.wrap ((q : Int) * 64) = (q : Int) * 64 := IntWalk.i64_in _ (by omega)
  have h2 : IntKind.i64.wrap ((q : Int) * 64 + (k : Int)) = ((q * 64 + k : Nat) : Int) := by rw [IntWalk.i64_in _ (by omega)]; omega
  clear h
  go_enter Tryz.func104, Tryz.ntmps104
  go_wp2
  go_ret
  exact ⟨rfl, rfl⟩
end
end Go.Proofs.YtijggofelepaaaaGreatDoor
