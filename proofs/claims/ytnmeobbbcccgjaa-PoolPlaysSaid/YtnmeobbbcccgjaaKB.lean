/- Rows of bytes that a disk owns: noughts put behind them, a string laid over them, their head. No program's function is met here. -/
import Derived.Test.YtnmeobbbcccgjaaKA
import Derived.Lib.AppendZerosOnto
import Derived.Laws.CopyOwn
import Derived.Deep.RegionLaw
set_option maxRecDepth 100000
namespace Go.Proofs.Ytnmeobbbcccgjaa
open Go.RowKit

/-- v owns a row that holds just these bytes. -/
def Bytes (w : World) (v : Value) (l : List UInt8) : Prop := w.ownsRow 0 5 1 v l.length (Lib.byteCells l)

/-- From w to w' nothing but v's own block was written; v' lies there, or in new memory. -/
def Grew (w w' : World) (v v' : Value) : Prop := w.grownBy w' v.ownBlock ∧ ∀ k, v'.ownBlock = some k → v.ownBlock = some k ∨ w.heap.size ≤ k

theorem infoByte : (Try.prog.info? 5).map (fun i => (i.zero, i.size, i.bytes)) = some (some (.int .u8 0), 1, 1) := by kernel_rfl

theorem zeroCells_byte (n : Nat) : Builtin.zeroCells #[Value.int .u8 0] n = (Lib.byteCells (List.replicate n 0)).toArray := by
  apply Array.ext
  · simp [Builtin.zeroCells, Lib.byteCells]
  · intro i h1 h2
    simp [Builtin.zeroCells, Lib.byteCells]
    have : i % 1 = 0 := Nat.mod_one i
    simp [this]

theorem byteCells_take (l : List UInt8) (n : Nat) : (Lib.byteCells l).take n = Lib.byteCells (l.take n) := by simp [Lib.byteCells, List.map_take]

theorem Bytes.take {w : World} {v : Value} {l : List UInt8} (h : Bytes w v l) {n : Nat} (hn : n ≤ l.length) :
    ∃ ao cap, v = .slice ao l.length cap ∧ n ≤ cap ∧ Bytes w (.slice ao n cap) (l.take n) ∧ Value.ownBlock (.slice ao n cap) = v.ownBlock := by
  rcases h.2 with ⟨rfl, h0⟩ | ⟨g, cap, cur, rfl, _, hg, hnc, hcm, hcs, ht⟩
  · have h1 : n = 0 := by omega
    subst h1
    exact ⟨none, 0, by rw [h0], Nat.le_refl _, by rw [List.take_zero]; exact World.ownsRow_nil _ _ _ _, rfl⟩
  · have hln : (l.take n).length = n := by rw [List.length_take]; omega
    refine ⟨some ⟨g, 0, none⟩, cap, rfl, by omega, ?_, rfl⟩
    show w.ownsRow 0 5 1 _ (l.take n).length _
    rw [hln]
    refine ⟨by rw [Lib.byteCells_length, hln]; omega, .inr ⟨g, cap, cur, rfl, Nat.zero_le _, hg, by omega, hcm, hcs, ?_⟩⟩
    rw [← byteCells_take, ← ht, List.take_take]
    congr 1
    omega

theorem append_zeros (w : World) (v : Value) (l : List UInt8) (h : Bytes w v l) (k : Nat) (h0 : 0 < k) (hlen : l.length + k ≤ 16777216) (ty : TypeId) :
    ∃ v' w', (Builtin.append_ #[44, 3] ty #[v, .int .i64 k]).run Try.prog w = .ok v' w' ∧ Bytes w' v' (l ++ List.replicate k 0) ∧ Grew w w' v v' := by
  obtain ⟨i, hi, hz, hs, hby⟩ := info_parts infoByte
  have hzc : (Value.int IntKind.u8 0).cells = #[Value.int .u8 0] := rfl
  have hlen' : (l ++ List.replicate k 0).length = l.length + k := by simp
  have grown : ∀ (old : Nat) (row : Option Nat), 
      Bytes (w.drew.alloc (.cells ((Lib.byteCells l).toArray ++ Builtin.zeroCells #[Value.int .u8 0] k ++ Builtin.zeroCells #[Value.int .u8 0] (grownCap w (l.length + k) old 5 - (l.length + k))) 5)) (.slice (some ⟨w.heap.size, 0, none⟩) (l.length + k) (grownCap w (l.length + k) old 5)) (l ++ List.replicate k 0) ∧
      w.grownBy (w.drew.alloc (.cells ((Lib.byteCells l).toArray ++ Builtin.zeroCells #[Value.int .u8 0] k ++ Builtin.zeroCells #[Value.int .u8 0] (grownCap w (l.length + k) old 5 - (l.length + k))) 5)) row := by
    intro old row
    have hge := grownCap_ge w (l.length + k) old 5
    have hcm : grownCap w (l.length + k) old 5 ≤ maxLen := grownCap_le_maxLen w (l.length + k) old 5 (by unfold maxLen; omega)
    refine ⟨?_, ⟨rfl, rfl, rfl, by simp, fun j hj _ => (Array.getElem?_push_lt (xs := w.heap) hj).trans (Array.getElem?_eq_getElem hj).symm⟩⟩
    show World.ownsRow _ 0 5 1 _ (l ++ List.replicate k 0).length _
    rw [hlen']
    refine ⟨by rw [Lib.byteCells_length, hlen']; omega, .inr ⟨w.heap.size, _, _, rfl, Nat.zero_le _, heap_alloc_new w.drew _, hge, hcm, ?_, ?_⟩⟩
    · simp only [zeroCells_byte, Array.size_append, List.size_toArray, Lib.byteCells_length, List.length_replicate]
      omega
    · simp only [zeroCells_byte, Array.toList_append]
      rw [Lib.byteCells_append]
      refine List.take_left' ?_
      simp [Lib.byteCells_length]
  rcases h.2 with ⟨rfl, hl0⟩ | ⟨g, cap, cur, rfl, _, hg, hnc, hcm, hcs, ht⟩
  · obtain rfl : l = [] := List.eq_nil_of_length_eq_zero hl0
    have hr := Lib.run_append_nil_zeros (P := Try.prog) w 44 3 ty 5 i (.int .u8 0) .i64 .i64 Try.underlying44 Try.underlying3 hi hz k h0 (by omega) (by omega) (by rw [hby]; simp at hlen; omega)
    have hgr := grown 0 (Value.ownBlock (.slice none 0 0))
    rw [hzc] at hr
    simp only [List.length_nil, Nat.zero_add, Lib.byteCells, List.map_nil, Array.empty_append] at hgr hr ⊢
    refine ⟨_, _, hr, hgr.1, hgr.2, ?_⟩
    intro k hk
    simp [Value.ownBlock] at hk
    right; omega
  · by_cases hroom : l.length + k ≤ cap
    · have hst := run_storeCells_at Try.prog g l.length 5 (Lib.byteCells (List.replicate k 0)) 0 cur w hg (by simp [Lib.byteCells_length]; omega) (Lib.byteCells_one _)
      have hk0 : ¬ k = 0 := by omega
      have hr : (Builtin.append_ #[44, 3] ty #[.slice (some ⟨g, 0, none⟩) l.length cap, .int .i64 k]).run Try.prog w = .ok (.slice (some ⟨g, 0, none⟩) (l.length + k) cap) (w.setRow g (cur.toList.take l.length ++ Lib.byteCells (List.replicate k 0) ++ cur.toList.drop (l.length + k)).toArray) := by
        have hw : IntKind.i64.wrap (k : Int) = k := by rw [IntKind.wrap_i64]; omega
        have hneg : ¬ ((k : Int) < 0) := by omega
        have h48i : ¬ (281474976710656 < (k : Int)) := by omega
        simp only [Nat.add_zero] at hst
        simp [Builtin.append_, run_underlying Try.underlying44, run_underlying Try.underlying3, sizeOf, typeInfo, zeroValue, hi, hz, hs, hby, asInt, asIntOf, hw, hneg, h48i, hroom, hk0, hzc, zeroCells_byte, Addr.add_lit, hst, Lib.byteCells_length]
      refine ⟨_, _, hr, ?_, ⟨rfl, rfl, rfl, by simp, fun k _ hk => setRow_other w g k _ (fun e => hk (by simp [Value.ownBlock, e]))⟩, ?_⟩
      · show World.ownsRow _ 0 5 1 _ (l ++ List.replicate k 0).length _
        rw [hlen']
        refine ⟨by rw [Lib.byteCells_length, hlen']; omega, .inr ⟨g, cap, _, rfl, Nat.zero_le _, setRow_heap w g cur _ 5 _ hg, hroom, hcm, ?_, ?_⟩⟩
        · simp only [List.size_toArray, List.length_append, List.length_take, List.length_drop, Array.length_toList, Lib.byteCells_length, List.length_replicate]
          omega
        · rw [Lib.byteCells_append, ← ht]
          simp only [Nat.mul_one]
          refine List.take_left' ?_
          simp [Lib.byteCells_length]
          omega
      · intro k' hk'
        exact .inl hk'
    · have hold : (Builtin.firstCells i.size l.length (.slice (some ⟨g, 0, none⟩) l.length cap)).run Try.prog w.drew = .ok (Lib.byteCells l).toArray w.drew := by
        refine run_firstCells_some w.drew i.size l.length ⟨g, 0, none⟩ l.length cap (Lib.byteCells l) (by rw [hs, Lib.byteCells_length]; omega) ?_
        intro j u hu
        exact World.ownsRow.cells (w := w) h (g := g) rfl j u hu
      have hr := Lib.run_append_grow_zeros (P := Try.prog) w 44 3 ty 5 i (.int .u8 0) .i64 .i64 Try.underlying44 Try.underlying3 hi hz (some ⟨g, 0, none⟩) l.length cap (Lib.byteCells l) hold k h0 (by omega) (by omega) (by omega) (by rw [hby]; omega) (growslice_fits (by omega) (by rw [hby]; omega))
      have hgr := grown cap (Value.ownBlock (.slice (some ⟨g, 0, none⟩) l.length cap))
      rw [hzc] at hr
      refine ⟨_, _, hr, hgr.1, hgr.2, ?_⟩
      intro k hk
      simp [Value.ownBlock] at hk
      right; omega
end Go.Proofs.Ytnmeobbbcccgjaa
