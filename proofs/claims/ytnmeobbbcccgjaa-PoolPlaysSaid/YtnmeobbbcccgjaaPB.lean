/- A frame's cells within the block of all frames; a string laid over some of them. No program's function is met here. -/
import Derived.Test.YtnmeobbbcccgjaaPA
import Derived.Deep.MidRow
set_option maxRecDepth 100000
namespace Go.Proofs.Ytnmeobbbcccgjaa
open Go.RowKit

/-- Of block fb just the cells from o on, n of them, may have turned. -/
structure Touch (fb o n : Nat) (w w' : World) : Prop where
  out : ∀ j, (j < o ∨ o + n ≤ j) → w'.cell? ⟨fb, j, none⟩ = w.cell? ⟨fb, j, none⟩
  some_ : ∀ j, (w.cell? ⟨fb, j, none⟩).isSome = true → (w'.cell? ⟨fb, j, none⟩).isSome = true
  froz : ∀ j, w'.frozen? ⟨fb, j, none⟩ = w.frozen? ⟨fb, j, none⟩

theorem Touch.ofBlock {fb o n : Nat} {w w' : World} (h : w'.heap[fb]? = w.heap[fb]?) : Touch fb o n w w' :=
  ⟨fun _ _ => World.cell?_of_block h, fun _ hj => by rw [World.cell?_of_block h]; exact hj, fun _ => World.frozen?_of_block h⟩
theorem Touch.refl (fb o n : Nat) (w : World) : Touch fb o n w w := Touch.ofBlock rfl
theorem Touch.trans {fb o n : Nat} {a b c : World} (h : Touch fb o n a b) (k : Touch fb o n b c) : Touch fb o n a c :=
  ⟨fun j hj => (k.out j hj).trans (h.out j hj), fun j hj => k.some_ j (h.some_ j hj), fun j => (k.froz j).trans (h.froz j)⟩
theorem Touch.mono {fb o n o' n' : Nat} {a b : World} (h : Touch fb o' n' a b) (h1 : o ≤ o') (h2 : o' + n' ≤ o + n) : Touch fb o n a b :=
  ⟨fun j hj => h.out j (by omega), h.some_, h.froz⟩
theorem Touch.setCell {fb o n i : Nat} (w : World) (v : Value) (h1 : o ≤ i) (h2 : i < o + n) : Touch fb o n w (w.setCell ⟨fb, i, none⟩ v) :=
  ⟨fun j hj => World.cell?_setCell_other _ _ _ _ (fun e => by injection e with _ e _; omega), fun j hj => by
    obtain ⟨u, hu⟩ := Option.isSome_iff_exists.1 hj
    obtain ⟨v', hv'⟩ := cell?_setCell_some (w := w) (p := ⟨fb, i, none⟩) (x := v) (q := ⟨fb, j, none⟩) (v := u) hu
    rw [hv']; rfl, fun j => World.frozen?_setCell _ _ _ _⟩
theorem Touch.setCells {fb o n : Nat} (w : World) (o' : Nat) (vs : List Value) (h1 : o ≤ o') (h2 : o' + vs.length ≤ o + n) : Touch fb o n w (w.setCells fb o' vs) :=
  ⟨fun j hj => World.cell?_setCells_out fb vs o' w _ (fun _ _ => by show j < o' ∨ o' + vs.length ≤ j; omega), fun j hj => World.isSome_setCells fb vs o' w _ hj, fun j => World.frozen?_setCells fb vs o' w _⟩
theorem rangeAt_touch {fb o n o' : Nat} {w w' : World} {cs : List Value} (h : w.rangeAt fb o' cs) (ht : Touch fb o n w w') (hap : o' + cs.length ≤ o ∨ o + n ≤ o') : w'.rangeAt fb o' cs := fun j v hv => by
  have hj := (List.getElem?_eq_some_iff.1 hv).1
  rw [ht.out (o' + j) (by omega)]; exact h j v hv
theorem there_touch {fb o n o' m : Nat} {w w' : World} (h : w.there fb o' m) (ht : Touch fb o n w w') : w'.there fb o' m := fun j hj =>
  ⟨ht.some_ _ (h j hj).1, (ht.froz _).trans (h j hj).2⟩
theorem there_part {fb o m o' m' : Nat} {w : World} (h : w.there fb o m) (h1 : o ≤ o') (h2 : o' + m' ≤ o + m) : w.there fb o' m' := fun j hj => by
  have := h (o' - o + j) (by omega)
  rwa [show o + (o' - o + j) = o' + j by omega] at this

theorem heap_setCells (fb : Nat) : ∀ (vs : List Value) (o : Nat) (w : World), (w.setCells fb o vs).heap.size = w.heap.size ∧ (w.setCells fb o vs).os = w.os ∧ (w.setCells fb o vs).tape = w.tape ∧ (w.setCells fb o vs).output = w.output ∧ ∀ k, k ≠ fb → (w.setCells fb o vs).heap[k]? = w.heap[k]?
  | [], _, _ => ⟨rfl, rfl, rfl, rfl, fun _ _ => rfl⟩
  | v :: r, o, w => by
    obtain ⟨h1, h2, h3, h4, h5⟩ := heap_setCells fb r (o + 1) (w.setCell ⟨fb, o, none⟩ v)
    exact ⟨h1.trans (by simp [World.setCell]), h2, h3, h4, fun k hk => (h5 k hk).trans (Below.heap_setCell _ _ _ _ hk)⟩
theorem Kept.setCells (S : Nat → Prop) (w : World) {fb o : Nat} (hb : S fb) (vs : List Value) : Kept S w (w.setCells fb o vs) := by
  obtain ⟨h1, h2, h3, h4, h5⟩ := heap_setCells fb vs o w
  exact ⟨h2, h3, h4, by rw [h1]; exact Nat.le_refl _, fun k _ hk => h5 k (fun e => hk (e ▸ hb))⟩

/-- What a frame holds. -/
structure Fr where
  page : Nat
  pins : Nat
  lately : Bool
  changed : Bool
  bytes : List UInt8

def Fr.cells (f : Fr) : List Value := [.int .i64 f.page, .int .i64 f.pins, .bool f.lately, .bool f.changed] ++ Lib.byteCells f.bytes
theorem Fr.cells_length (f : Fr) : f.cells.length = 4 + f.bytes.length := by simp [Fr.cells, Lib.byteCells_length]; omega
theorem Fr.one (f : Fr) : ∀ v ∈ f.cells, v.oneCell' = true := by
  intro v hv
  simp only [Fr.cells, List.mem_append] at hv
  rcases hv with hv | hv
  · simp at hv; rcases hv with rfl | rfl | rfl | rfl <;> rfl
  · exact Lib.byteCells_one _ v hv
def zeroFr (q : Nat) : Fr := ⟨q, 0, false, false, List.replicate 512 0⟩

/-- A frame lies at o. -/
def FrAt (w : World) (fb o : Nat) (f : Fr) : Prop := w.rangeAt fb o f.cells
theorem FrAt.page {w : World} {fb o : Nat} {f : Fr} (h : FrAt w fb o f) : w.cell? ⟨fb, o, none⟩ = some (.int .i64 f.page) := h 0 _ rfl
theorem FrAt.pins {w : World} {fb o : Nat} {f : Fr} (h : FrAt w fb o f) : w.cell? ⟨fb, o + 1, none⟩ = some (.int .i64 f.pins) := h 1 _ rfl
theorem FrAt.lately {w : World} {fb o : Nat} {f : Fr} (h : FrAt w fb o f) : w.cell? ⟨fb, o + 2, none⟩ = some (.bool f.lately) := h 2 _ rfl
theorem FrAt.changed {w : World} {fb o : Nat} {f : Fr} (h : FrAt w fb o f) : w.cell? ⟨fb, o + 3, none⟩ = some (.bool f.changed) := h 3 _ rfl
theorem FrAt.bytes {w : World} {fb o : Nat} {f : Fr} (h : FrAt w fb o f) : w.rangeAt fb (o + 4) (Lib.byteCells f.bytes) := fun j v hv => by
  have := h (4 + j) v (by simp only [Fr.cells]; rw [List.getElem?_append_right (by simp)]; simpa using hv)
  rwa [show o + 4 + j = o + (4 + j) by omega]

/-- A frame's cells out of its four first ones and its bytes. -/
theorem FrAt.mk {w : World} {fb o : Nat} {f : Fr} (h0 : w.cell? ⟨fb, o, none⟩ = some (.int .i64 f.page)) (h1 : w.cell? ⟨fb, o + 1, none⟩ = some (.int .i64 f.pins)) (h2 : w.cell? ⟨fb, o + 2, none⟩ = some (.bool f.lately))
    (h3 : w.cell? ⟨fb, o + 3, none⟩ = some (.bool f.changed)) (h4 : w.rangeAt fb (o + 4) (Lib.byteCells f.bytes)) : FrAt w fb o f := fun j v hv => by
  by_cases hj : j < 4
  · have : j = 0 ∨ j = 1 ∨ j = 2 ∨ j = 3 := by omega
    rcases this with rfl | rfl | rfl | rfl <;> (simp [Fr.cells] at hv; subst hv)
    · exact h0
    · exact h1
    · exact h2
    · exact h3
  · obtain ⟨k, rfl⟩ : ∃ k, j = 4 + k := ⟨j - 4, by omega⟩
    rw [show o + (4 + k) = o + 4 + k by omega]
    refine h4 k v ?_
    simp only [Fr.cells] at hv
    rw [List.getElem?_append_right (by simp)] at hv
    simpa using hv

theorem add_lit' (b o j : Nat) : (⟨b, o, none⟩ : Addr).add j = ⟨b, o + j, none⟩ := Addr.add_mid b o j

/-- 'copy(dst, s)' from a string into cells that are there. -/
theorem run_copy_string_mid (w : World) (dT sT ty elem : TypeId) (b o dLen dCap : Nat) (s : ByteArray) (hu : Try.prog.underlying dT = some (.slice elem)) (hs : (Try.prog.info? elem).map (·.size) = some 1) (ht : w.there b o s.size) (hle : s.size ≤ dLen) :
    (Builtin.copy_ #[dT, sT] ty #[.slice (some ⟨b, o, none⟩) dLen dCap, .string s]).run Try.prog w = .ok (goInt s.size) (w.setCells b o (Lib.byteCells s.data.toList)) := by
  have hlen : (Lib.byteCells s.data.toList).length = s.size := by rw [Lib.byteCells_length, ← Lib.size_eq]
  have hst := run_storeCells_cells (P := Try.prog) b o (Lib.byteCells s.data.toList) 0 w (fun j hj => by rw [hlen] at hj; simpa using (ht j hj).1) (fun j hj => by rw [hlen] at hj; simpa using (ht j hj).2) (Lib.byteCells_one _)
  have hmin : Nat.min s.size dLen = s.size := Nat.min_eq_left hle
  have htk : List.take s.size (List.map (fun b : UInt8 => Value.int IntKind.u8 (b.toNat : Int)) s.data.toList) = Lib.byteCells s.data.toList := by
    rw [List.take_of_length_le (by rw [List.length_map, ← Lib.size_eq]; exact Nat.le_refl _)]
    rfl
  simp only [Nat.add_zero] at hst
  cases hq : Try.prog.info? elem with
  | none => simp [hq] at hs
  | some i =>
    simp [Builtin.copy_, run_underlying hu, Builtin.lenOf, Builtin.firstCells, sizeOf, typeInfo, hq, hmin]
    rw [htk, hst]
    simp [Result.andThen]

/-- 'string(b)' of bytes that lie in a row. -/
theorem run_string_mid (w : World) (b o c : Nat) (l : List UInt8) (h : w.rangeAt b o (Lib.byteCells l)) :
    (convert 44 9 (.slice (some ⟨b, o, none⟩) l.length c)).run Try.prog w = .ok (.string ⟨l.toArray⟩) w := by
  refine run_convert_bytes_back (P := Try.prog) w 44 9 5 ⟨b, o, none⟩ c l Try.underlying44 Try.underlying5 Try.underlying9 ?_
  intro j hj
  rw [add_lit', h j (.int .u8 (l[j].toNat : Int)) (by simp [Lib.byteCells, hj])]

theorem byteCells_drop (l : List UInt8) (n : Nat) : (Lib.byteCells l).drop n = Lib.byteCells (l.drop n) := by simp [Lib.byteCells, List.map_drop]

theorem splice_get (l : List UInt8) (a : Nat) (cs : List UInt8) (h : a + cs.length ≤ l.length) (j : Nat) : (splice l a cs)[j]? = if a ≤ j ∧ j < a + cs.length then cs[j - a]? else l[j]? := by
  have e : splice l a cs = l.take a ++ (cs ++ l.drop (a + cs.length)) := by simp [splice]
  have hl : (l.take a).length = a := by rw [List.length_take]; omega
  rw [e]
  by_cases h1 : j < a
  · rw [List.getElem?_append_left (by omega), if_neg (by omega), List.getElem?_take, if_pos h1]
  · rw [List.getElem?_append_right (by omega), hl]
    by_cases h2 : j < a + cs.length
    · rw [List.getElem?_append_left (by omega), if_pos (by omega)]
    · rw [List.getElem?_append_right (by omega), if_neg (by omega), List.getElem?_drop]
      congr 1
      omega

/-- Bytes that lie in a row, behind others laid over some of them. -/
theorem rangeAt_splice {w : World} {b o : Nat} {l : List UInt8} (h : w.rangeAt b o (Lib.byteCells l)) (a : Nat) (cs : List UInt8) (hfit : a + cs.length ≤ l.length) (ht : w.there b (o + a) cs.length) :
    (w.setCells b (o + a) (Lib.byteCells cs)).rangeAt b o (Lib.byteCells (splice l a cs)) := fun j v hv => by
  have hl : (Lib.byteCells cs).length = cs.length := Lib.byteCells_length _
  rw [Lib.byteCells, List.getElem?_map, splice_get l a cs hfit j] at hv
  by_cases h1 : a ≤ j ∧ j < a + cs.length
  · obtain ⟨k, rfl⟩ : ∃ k, j = a + k := ⟨j - a, by omega⟩
    have := World.rangeAt_setCells_same w b (o + a) (Lib.byteCells cs) (by rw [hl]; exact ht) k v ?_
    · rwa [show o + (a + k) = o + a + k by omega]
    · rw [if_pos h1, Nat.add_sub_cancel_left] at hv
      rw [Lib.byteCells, List.getElem?_map]; exact hv
  · rw [World.cell?_setCells_out b (Lib.byteCells cs) (o + a) w _ (fun _ _ => by show o + j < o + a ∨ o + a + (Lib.byteCells cs).length ≤ o + j; rw [hl]; omega)]
    rw [if_neg h1] at hv
    exact h j v (by rw [Lib.byteCells, List.getElem?_map]; exact hv)
theorem splice_at0 (l cs : List UInt8) : splice l 0 cs = cs ++ l.drop cs.length := by simp [splice]
end Go.Proofs.Ytnmeobbbcccgjaa
