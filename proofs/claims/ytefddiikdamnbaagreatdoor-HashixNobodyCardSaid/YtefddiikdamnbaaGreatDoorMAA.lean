/- Texts of the same proof, one behind the other: GA, KA, KB, GK, KC, KD, KE. -/
import Derived.Test.YtefddiikdamnbaaGreatDoorProg
import Derived.WalkKit
import Derived.WalkLawsBesides
import Derived.WalkSpells
import Derived.Outline
import Derived.Below
import Derived.Lib.Hide
import Derived.Lib.BufferWrite
import Derived.Lib.UnsafeStr
import Derived.Laws.MakeOwn
import Derived.Laws.OwnMore
import Derived.LaidEqlPtr
import Derived.Lib.AppendZerosOnto
import Derived.Laws.CopyOwn
import Derived.Deep.RegionLaw
import Derived.Deep.RegionHeld3
import Derived.Deep.RegionWith
/- What serves every layer: rows that a call owns, texts in a row, appends as steps and as runs, strings.Clone. -/
set_option maxRecDepth 100000
namespace Go.Proofs.YtefddiikdamnbaaGreatDoor
open Go.RowKit

/-- From w to w' nothing but v's own block was written; v' lies there, or in new memory. -/
def Grew (w w' : World) (v v' : Value) : Prop := w.grownBy w' v.ownBlock ∧ ∀ k, v'.ownBlock = some k → v.ownBlock = some k ∨ w.heap.size ≤ k

/-- An append of cells to a row that the call owns: where the new row lies. -/
theorem infoByte : (Tryz.prog.info? 5).map (fun i => (i.zero, i.size, i.bytes)) = some (some (.int .u8 0), 1, 1) := by kernel_rfl

theorem ownsRow_of_block {w w' : World} {B e n : Nat} {v : Value} {xs : List Value} {sz : Nat} (h : w.ownsRow B e sz v n xs) (hb : ∀ k, v.ownBlock = some k → w'.heap[k]? = w.heap[k]?) : w'.ownsRow B e sz v n xs := by
  refine ⟨h.1, ?_⟩
  rcases h.2 with hn | ⟨g, cap, cur, rfl, hB, hg, r⟩
  · exact .inl hn
  · exact .inr ⟨g, cap, cur, rfl, hB, by rw [hb g rfl]; exact hg, r⟩

theorem append_own2 (w : World) (t ty e : TypeId) (i : TypeInfo) (z : Value) (size bytes : Nat) (ht : Tryz.prog.underlying t = some (.slice e)) (hi : Tryz.prog.info? e = some i) (hz : i.zero = some z)
    (hs : i.size = size) (hby : i.bytes = bytes) (hzs : z.cells.size = size) (hsz : 0 < size)
    (v : Value) (n : Nat) (xs : List Value) (h : w.ownsRow 0 e size v n xs) (ad : Addr) (m c : Nat) (news : List Value) (hl : news.length = m * size) (hnews : ∀ j u, news[j]? = some u → w.cell? (ad.add j) = some u)
    (h1 : ∀ u ∈ news, u.oneCell' = true) (h63 : n + m ≤ maxLen) (hbytes : (n + m) * bytes ≤ 140737488355328) (h64 : n + m ≤ 9223372036854775807) :
    ∃ v' w', (Builtin.append_ #[t, t] ty #[v, .slice (some ad) m c]).run Tryz.prog w = .ok v' w' ∧ w'.ownsRow 0 e size v' (n + m) (xs ++ news) ∧ Grew w w' v v' := by
  obtain ⟨v', w', hr, h2, h3, _⟩ := run_append_own (P := Tryz.prog) w 0 t ty e i z size bytes ht hi hz hs hby hzs hsz v n xs h ad m c news hl hnews h1 h63 hbytes (Nat.zero_le _)
  refine ⟨v', w', hr, h2, h3, ?_⟩
  intro k hk
  rcases h.2 with ⟨rfl, h0⟩ | ⟨g, cap, cur, rfl, _, hg, hnc, hcm, hcs, htk⟩
  · subst h0
    obtain rfl : xs = [] := List.eq_nil_of_length_eq_zero (by simpa using h.1)
    obtain ⟨v2, w2, hr2, ho2, _⟩ := run_append_own (P := Tryz.prog) w w.heap.size t ty e i z size bytes ht hi hz hs hby hzs hsz (.slice none 0 0) 0 [] (World.ownsRow_nil _ _ _ _) ad m c news hl hnews h1 h63 hbytes (Nat.le_refl _)
    rw [hr] at hr2
    cases hr2
    exact .inr (ho2.lt k hk).1
  · by_cases hroom : n + m ≤ cap
    · have hr2 := run_append_room (P := Tryz.prog) w t ty e i ht hi g n cap cur hg ad m c news (by rw [hs]; exact hl) hnews h1 hroom (by rw [hs, hl, hcs, ← Nat.add_mul]; exact Nat.mul_le_mul_right _ hroom)
      rw [hr] at hr2
      cases hr2
      exact .inl hk
    · have hr2 := run_append_grow (P := Tryz.prog) w t ty e i z ht hi hz ⟨g, 0, none⟩ n cap xs (by rw [hs]; exact h.1) (World.ownsRow.cells (w := w) h (g := g) rfl) ad m c news (by rw [hs]; exact hl) hnews (by omega) (by omega) (growslice_fits (by omega) (by rw [hby]; exact hbytes))
      rw [hr] at hr2
      cases hr2
      simp [Value.ownBlock] at hk
      right; omega

/-- An append, as a step of a region that draws its order, out of its run. -/
theorem step_app_run {ops : Array Oper} {o : Oper} {a : Act} {K : Act → World → Prop} {Q : Exit → Act → World → Prop} {E : Prop} {w w' : World} (hgd : o.guard = none) (s x : Operand) (t : TypeId)
    (ho : o.op = .call { callee := .builtin .append, args := #[s, x], argTypes := #[t, t] }) (sv xv v : Value) (hs : a.eval s = sv) (hx : a.eval x = xv) (hr : (Builtin.append_ #[t, t] o.type #[sv, xv]).run Tryz.prog w = .ok v w') (h : K (a.put o.dst v) w') :
    if Region.wanted o (yielded ops a.tmps) = true then Oper.wp Tryz.prog o a w K Q else E := by
  have hw : Region.wanted o (yielded ops a.tmps) = true := by simp [Region.wanted, hgd]
  rw [if_pos hw]
  unfold Oper.wp
  simp [execOp, ho, resolve, invoke, builtin, hs, hx, hr, Result.andThen]
  rw [Oper.upon_value]
  exact h

theorem infoStr : (Tryz.prog.info? 9).map (fun i => (i.zero, i.size, i.bytes)) = some (some (.string ⟨#[]⟩), 1, 16) := by kernel_rfl

/-- Texts that lie in a row of their own, from block B on. -/
def Strs (B : Nat) (w : World) (v : Value) (rs : List ByteArray) : Prop := w.ownsRow B 9 1 v rs.length (rs.map Value.string)

theorem ownsRow_below {w w' : World} {base : Nat} {e : TypeId} {size : Nat} {v : Value} {n : Nat} {xs : List Value} (h : w.ownsRow base e size v n xs) (hb : Below w.heap.size w w') : w'.ownsRow base e size v n xs :=
  ownsRow_of_block h fun k hk => hb.block k (h.lt k hk).2

theorem Strs.below {B : Nat} {w w' : World} {v : Value} {rs : List ByteArray} (h : Strs B w v rs) (hb : Below w.heap.size w w') : Strs B w' v rs := ownsRow_below h hb

theorem Strs.mono {B B' : Nat} {w : World} {v : Value} {rs : List ByteArray} (h : Strs B w v rs) (hB : B' ≤ B) : Strs B' w v rs :=
  ⟨h.1, h.2.imp id fun ⟨g, cap, cur, h1, h2, h3⟩ => ⟨g, cap, cur, h1, Nat.le_trans hB h2, h3⟩⟩

theorem Strs.shape {B : Nat} {w : World} {v : Value} {rs : List ByteArray} (h : Strs B w v rs) : ∃ a c, v = .slice a rs.length c := by
  rcases h.2 with ⟨rfl, h0⟩ | ⟨g, cap, cur, rfl, _⟩
  · exact ⟨none, 0, by rw [h0]⟩
  · exact ⟨_, cap, rfl⟩

theorem below_drewN (w : World) (n : Nat) : Below w.heap.size w (w.drewN n) := ⟨rfl, rfl, rfl, Nat.le_refl _, fun _ _ => rfl⟩

/-- Texts that can be read from a slice. -/
def Texts (w : World) (v : Value) (rs : List ByteArray) : Prop :=
  ∃ a c, v = .slice a rs.length c ∧ (rs = [] ∨ ∃ b off, a = some ⟨b, off, none⟩ ∧ b < w.heap.size ∧ ∀ j (h : j < rs.length), w.cell? ⟨b, off + j, none⟩ = some (.string rs[j]))

set_option maxHeartbeats 4000000 in
/-- internal/stringslite.Clone: the same bytes, in new memory. -/
theorem slClone_any (s : ByteArray) (w : World) (hlim : s.size ≤ 281474976710656) :
    Calls Tryz.prog 220 #[.string s] w fun e w' => e = .returned (.string s) ∧ Below w.heap.size w w' := by
  by_cases h0 : s.size = 0
  · have hs : s = ⟨#[]⟩ := by
      apply ByteArray.ext
      exact Array.eq_empty_of_size_eq_zero h0
    subst hs
    go_enter Tryz.func220, Tryz.ntmps220
    go_wp2
    go_ret
    exact ⟨rfl, Below.refl _ _⟩
  · have infoB : (Tryz.prog.info? 5).map (fun i => (i.zero, i.size, i.bytes)) = some (some (.int .u8 0), 1, 1) := by kernel_rfl
    obtain ⟨i0, hi, hz0, hz1, hz2⟩ := info_parts infoB
    have hinfo : (Tryz.prog.info? 5).map (·.size) = some 1 := by rw [hi]; simp [hz1]
    have hco : Tryz.prog.cellsOf 5 = 1 := by simp [Program.cellsOf, hi, hz1]
    obtain ⟨M, hM⟩ : ∃ M, M = madeCells (Value.int .u8 0).cells (((s.size : Nat) : Int).toNat * i0.size) := ⟨_, rfl⟩
    have hMs : M.size = s.size := by rw [hM, size_madeCells, hz1]; simp
    have hmk : ∀ W : World, (Instr.makeSlice 113 (.int .i64 (s.size : Int)) (.int .i64 (s.size : Int))).run Tryz.prog W = .ok (.slice (some ⟨W.heap.size, 0, none⟩) s.size s.size) (W.alloc (.cells M 5)) := fun W => by
      have h := run_make (P := Tryz.prog) W 113 5 i0 (.int .u8 0) Tryz.underlying113 hi hz0 .i64 .i64 (s.size : Int) (s.size : Int) (by omega) (by omega) (by rw [hz2]; omega) (by omega)
      rw [← hM] at h
      simpa using h
    clear hM
    have hcp := Lib.run_copy_row_string (P := Tryz.prog) (w.alloc (.cells M 5)) 113 9 3 5 w.heap.size 0 s.size s.size s M 5 Tryz.underlying113 hinfo (heap_alloc_new w _) (Nat.le_refl _) (by omega)
    obtain ⟨Y, hY⟩ : ∃ Y, Y = (M.toList.take 0 ++ Lib.byteCells s.data.toList ++ M.toList.drop (0 + s.size)).toArray := ⟨_, rfl⟩
    rw [← hY] at hcp
    have hYl : Y.toList = Lib.byteCells s.data.toList := by
      rw [hY, List.toList_toArray, List.take_zero, List.nil_append, List.drop_of_length_le (by rw [Array.length_toList]; omega), List.append_nil]
    have hYs : Y.size = s.size := by rw [← Array.length_toList, hYl, Lib.byteCells_length, ← Lib.size_eq]
    have hgY : ((w.alloc (.cells M 5)).setRow w.heap.size Y).heap[w.heap.size]? = some (.cells Y 5 (0, 0)) := setRow_heap _ _ M _ 5 (0, 0) (heap_alloc_new w _)
    have hne : s.data.toList ≠ [] := fun e => h0 (by rw [Lib.size_eq, e]; rfl)
    have hUS := Lib.run_unsafeString_row (P := Tryz.prog) ((w.alloc (.cells M 5)).setRow w.heap.size Y) 290 3 9 5 Tryz.underlying290 hco w.heap.size Y.size (by unfold World.shape?; rw [hgY]) s.data.toList hne (by rw [← Lib.size_eq]; omega) (by rw [← Lib.size_eq]; omega)
      (fun j x hx => Lib.cells_of_row hgY Y.size j _ (by rw [List.take_of_length_le (by rw [Array.length_toList]; exact Nat.le_refl _), hYl]; simp [Lib.byteCells, hx]))
    rw [← Lib.size_eq] at hUS
    clear hY
    go_enter Tryz.func220, Tryz.ntmps220
    go_wp2
    go_ret
    have hb1 : Below w.heap.size w (w.alloc (.cells M 5)) := (Below.refl _ w).alloc (Nat.le_refl _) _
    have hb2 : Below w.heap.size (w.alloc (.cells M 5)) ((w.alloc (.cells M 5)).setRow w.heap.size Y) := ⟨rfl, rfl, rfl, by simp, fun k hk => setRow_other _ _ _ _ (by omega)⟩
    exact ⟨rfl, Lib.below_freeze (hb1.trans hb2) (p := ⟨w.heap.size, 0, none⟩) (Nat.le_refl _) _⟩

set_option maxHeartbeats 400000 in
/-- strings.Clone: the same bytes, in new memory. -/
theorem clone_any (s : ByteArray) (w : World) (hlim : s.size ≤ 281474976710656) :
    Calls Tryz.prog 174 #[.string s] w fun e w' => e = .returned (.string s) ∧ Below w.heap.size w w' := by
  go_enter Tryz.func174, Tryz.ntmps174
  go_wp2_with (go_at_call 220; refine (slClone_any s _ hlim).mono ?_)
  rintro e w1 ⟨rfl, hb⟩
  go_wp2
  go_ret
  exact ⟨rfl, hb⟩
end Go.Proofs.YtefddiikdamnbaaGreatDoor

/- The contracts of a disk's New, given, isFile, Clone: for every argument. -/
set_option maxRecDepth 100000
namespace Go.Proofs.YtefddiikdamnbaaGreatDoor
open Go.RowKit

/-- The cells of a new disk's block. -/
def newCells (b : Nat) : Array Value := #[.pointer (some ⟨b, 0, none⟩), .slice none 0 0, .slice none 0 0, .slice none 0 0, .slice none 0 0, .slice none 0 0]

theorem sizeD : (Tryz.prog.info? 118).map (·.size) = some 6 := by kernel_rfl

set_option maxHeartbeats 400000 in
theorem new_any (w : World) :
    Calls Tryz.prog 11 #[] w fun e w' => e = .returned (.pointer (some ⟨w.heap.size, 0, none⟩)) ∧ w' = w.alloc (.cells (newCells w.heap.size) 118) := by
  go_enter Tryz.func11, Tryz.ntmps11
  go_wp2
  go_ret
  exact ⟨rfl, rfl⟩

set_option maxHeartbeats 400000 in
theorem isFile_any (f : Int) (w : World) :
    Calls Tryz.prog 157 #[.int .i64 f] w fun e w' => e = .returned (.bool (decide (0 ≤ f ∧ f < 4))) ∧ w' = w := by
  go_enter Tryz.func157, Tryz.ntmps157
  go_wp2
  all_goals
    go_ret
    refine ⟨congrArg (fun b => Ending.returned (.bool b)) ?_, rfl⟩
    grind

set_option maxHeartbeats 400000 in
theorem given_self (d : Nat) (w : World) (h : w.cell? ⟨d, 0, none⟩ = some (.pointer (some ⟨d, 0, none⟩))) :
    Calls Tryz.prog 156 #[.pointer (some ⟨d, 0, none⟩)] w fun e w' => e = .returned (.bool true) ∧ w' = w := by
  obtain ⟨j, hj, _⟩ := Option.map_eq_some_iff.1 sizeD
  have hq := run_eql_ptr_same (P := Tryz.prog) w (tp := 26) (te := 118) ⟨d, 0, none⟩ Tryz.underlying26 hj
  go_enter Tryz.func156, Tryz.ntmps156
  go_wp2
  go_ret
  exact ⟨rfl, rfl⟩

end Go.Proofs.YtefddiikdamnbaaGreatDoor

/- Rows of bytes that a disk owns: noughts put behind them, a string laid over them, their head. No program's function is met here. -/
set_option maxRecDepth 100000
namespace Go.Proofs.YtefddiikdamnbaaGreatDoor
open Go.RowKit

/-- v owns a row that holds just these bytes. -/
def Bytes (w : World) (v : Value) (l : List UInt8) : Prop := w.ownsRow 0 5 1 v l.length (Lib.byteCells l)

theorem zeroCells_byte (n : Nat) : Builtin.zeroCells #[Value.int .u8 0] n = (Lib.byteCells (List.replicate n 0)).toArray := by
  apply Array.ext
  · simp [Builtin.zeroCells, Lib.byteCells]
  · intro i h1 h2
    simp [Builtin.zeroCells, Lib.byteCells]
    have : i % 1 = 0 := Nat.mod_one i
    simp [this]

theorem byteCells_take (l : List UInt8) (n : Nat) : (Lib.byteCells l).take n = Lib.byteCells (l.take n) := by simp [Lib.byteCells, List.map_take]

theorem Bytes.take {w : World} {v : Value} {l : List UInt8} (h : Bytes w v l) {n : Nat} (hn : n ≤ l.length) :
    ∃ ao cap, v = .slice ao l.length cap ∧ n ≤ cap ∧ Bytes w (.slice ao n cap) (l.take n) ∧ Value.ownBlock (.slice ao n cap) = v.ownBlock := by
  rcases h.2 with ⟨rfl, h0⟩ | ⟨g, cap, cur, rfl, _, hg, hnc, hcm, hcs, ht⟩
  · have h1 : n = 0 := by omega
    subst h1
    exact ⟨none, 0, by rw [h0], Nat.le_refl _, by rw [List.take_zero]; exact World.ownsRow_nil _ _ _ _, rfl⟩
  · have hln : (l.take n).length = n := by rw [List.length_take]; omega
    refine ⟨some ⟨g, 0, none⟩, cap, rfl, by omega, ?_, rfl⟩
    show w.ownsRow 0 5 1 _ (l.take n).length _
    rw [hln]
    refine ⟨by rw [Lib.byteCells_length, hln]; omega, .inr ⟨g, cap, cur, rfl, Nat.zero_le _, hg, by omega, hcm, hcs, ?_⟩⟩
    rw [← byteCells_take, ← ht, List.take_take]
    congr 1
    omega

theorem append_zeros (w : World) (v : Value) (l : List UInt8) (h : Bytes w v l) (k : Nat) (h0 : 0 < k) (hlen : l.length + k ≤ 16777216) (ty : TypeId) :
    ∃ v' w', (Builtin.append_ #[113, 3] ty #[v, .int .i64 k]).run Tryz.prog w = .ok v' w' ∧ Bytes w' v' (l ++ List.replicate k 0) ∧ Grew w w' v v' := by
  obtain ⟨i, hi, hz, hs, hby⟩ := info_parts infoByte
  have hzc : (Value.int IntKind.u8 0).cells = #[Value.int .u8 0] := rfl
  have hlen' : (l ++ List.replicate k 0).length = l.length + k := by simp
  have grown : ∀ (old : Nat) (row : Option Nat), 
      Bytes (w.drew.alloc (.cells ((Lib.byteCells l).toArray ++ Builtin.zeroCells #[Value.int .u8 0] k ++ Builtin.zeroCells #[Value.int .u8 0] (grownCap w (l.length + k) old 5 - (l.length + k))) 5)) (.slice (some ⟨w.heap.size, 0, none⟩) (l.length + k) (grownCap w (l.length + k) old 5)) (l ++ List.replicate k 0) ∧
      w.grownBy (w.drew.alloc (.cells ((Lib.byteCells l).toArray ++ Builtin.zeroCells #[Value.int .u8 0] k ++ Builtin.zeroCells #[Value.int .u8 0] (grownCap w (l.length + k) old 5 - (l.length + k))) 5)) row := by
    intro old row
    have hge := grownCap_ge w (l.length + k) old 5
    have hcm : grownCap w (l.length + k) old 5 ≤ maxLen := grownCap_le_maxLen w (l.length + k) old 5 (by unfold maxLen; omega)
    refine ⟨?_, ⟨rfl, rfl, rfl, by simp, fun j hj _ => (Array.getElem?_push_lt (xs := w.heap) hj).trans (Array.getElem?_eq_getElem hj).symm⟩⟩
    show World.ownsRow _ 0 5 1 _ (l ++ List.replicate k 0).length _
    rw [hlen']
    refine ⟨by rw [Lib.byteCells_length, hlen']; omega, .inr ⟨w.heap.size, _, _, rfl, Nat.zero_le _, heap_alloc_new w.drew _, hge, hcm, ?_, ?_⟩⟩
    · simp only [zeroCells_byte, Array.size_append, List.size_toArray, Lib.byteCells_length, List.length_replicate]
      omega
    · simp only [zeroCells_byte, Array.toList_append]
      rw [Lib.byteCells_append]
      refine List.take_left' ?_
      simp [Lib.byteCells_length]
  rcases h.2 with ⟨rfl, hl0⟩ | ⟨g, cap, cur, rfl, _, hg, hnc, hcm, hcs, ht⟩
  · obtain rfl : l = [] := List.eq_nil_of_length_eq_zero hl0
    have hr := Lib.run_append_nil_zeros (P := Tryz.prog) w 113 3 ty 5 i (.int .u8 0) .i64 .i64 Tryz.underlying113 Tryz.underlying3 hi hz k h0 (by omega) (by omega) (by rw [hby]; simp at hlen; omega)
    have hgr := grown 0 (Value.ownBlock (.slice none 0 0))
    rw [hzc] at hr
    simp only [List.length_nil, Nat.zero_add, Lib.byteCells, List.map_nil, Array.empty_append] at hgr hr ⊢
    refine ⟨_, _, hr, hgr.1, hgr.2, ?_⟩
    intro k hk
    simp [Value.ownBlock] at hk
    right; omega
  · by_cases hroom : l.length + k ≤ cap
    · have hst := run_storeCells_at Tryz.prog g l.length 5 (Lib.byteCells (List.replicate k 0)) 0 cur w hg (by simp [Lib.byteCells_length]; omega) (Lib.byteCells_one _)
      have hk0 : ¬ k = 0 := by omega
      have hr : (Builtin.append_ #[113, 3] ty #[.slice (some ⟨g, 0, none⟩) l.length cap, .int .i64 k]).run Tryz.prog w = .ok (.slice (some ⟨g, 0, none⟩) (l.length + k) cap) (w.setRow g (cur.toList.take l.length ++ Lib.byteCells (List.replicate k 0) ++ cur.toList.drop (l.length + k)).toArray) := by
        have hw : IntKind.i64.wrap (k : Int) = k := by rw [IntKind.wrap_i64]; omega
        have hneg : ¬ ((k : Int) < 0) := by omega
        have h48i : ¬ (281474976710656 < (k : Int)) := by omega
        simp only [Nat.add_zero] at hst
        simp [Builtin.append_, run_underlying Tryz.underlying113, run_underlying Tryz.underlying3, sizeOf, typeInfo, zeroValue, hi, hz, hs, hby, asInt, asIntOf, hw, hneg, h48i, hroom, hk0, hzc, zeroCells_byte, Addr.add_lit, hst, Lib.byteCells_length]
      refine ⟨_, _, hr, ?_, ⟨rfl, rfl, rfl, by simp, fun k _ hk => setRow_other w g k _ (fun e => hk (by simp [Value.ownBlock, e]))⟩, ?_⟩
      · show World.ownsRow _ 0 5 1 _ (l ++ List.replicate k 0).length _
        rw [hlen']
        refine ⟨by rw [Lib.byteCells_length, hlen']; omega, .inr ⟨g, cap, _, rfl, Nat.zero_le _, setRow_heap w g cur _ 5 _ hg, hroom, hcm, ?_, ?_⟩⟩
        · simp only [List.size_toArray, List.length_append, List.length_take, List.length_drop, Array.length_toList, Lib.byteCells_length, List.length_replicate]
          omega
        · rw [Lib.byteCells_append, ← ht]
          simp only [Nat.mul_one]
          refine List.take_left' ?_
          simp [Lib.byteCells_length]
          omega
      · intro k' hk'
        exact .inl hk'
    · have hold : (Builtin.firstCells i.size l.length (.slice (some ⟨g, 0, none⟩) l.length cap)).run Tryz.prog w.drew = .ok (Lib.byteCells l).toArray w.drew := by
        refine run_firstCells_some w.drew i.size l.length ⟨g, 0, none⟩ l.length cap (Lib.byteCells l) (by rw [hs, Lib.byteCells_length]; omega) ?_
        intro j u hu
        exact World.ownsRow.cells (w := w) h (g := g) rfl j u hu
      have hr := Lib.run_append_grow_zeros (P := Tryz.prog) w 113 3 ty 5 i (.int .u8 0) .i64 .i64 Tryz.underlying113 Tryz.underlying3 hi hz (some ⟨g, 0, none⟩) l.length cap (Lib.byteCells l) hold k h0 (by omega) (by omega) (by omega) (by rw [hby]; omega) (growslice_fits (by omega) (by rw [hby]; omega))
      have hgr := grown cap (Value.ownBlock (.slice (some ⟨g, 0, none⟩) l.length cap))
      rw [hzc] at hr
      refine ⟨_, _, hr, hgr.1, hgr.2, ?_⟩
      intro k hk
      simp [Value.ownBlock] at hk
      right; omega
end Go.Proofs.YtefddiikdamnbaaGreatDoor

/- What stands when just some blocks are written. -/
set_option maxRecDepth 100000
namespace Go.Proofs.YtefddiikdamnbaaGreatDoor
open Go.RowKit

/-- Of the blocks that were there just those of S may have been written. -/
structure Kept (S : Nat → Prop) (w w' : World) : Prop where
  os : w'.os = w.os
  tape : w'.tape = w.tape
  output : w'.output = w.output
  size : w.heap.size ≤ w'.heap.size
  block : ∀ k, k < w.heap.size → ¬ S k → w'.heap[k]? = w.heap[k]?

def More (S : Nat → Prop) (n : Nat) : Nat → Prop := fun k => S k ∨ n ≤ k

theorem Kept.refl (S : Nat → Prop) (w : World) : Kept S w w := ⟨rfl, rfl, rfl, Nat.le_refl _, fun _ _ _ => rfl⟩
theorem Kept.trans {S T : Nat → Prop} {a b c : World} (h : Kept S a b) (k : Kept T b c) (hT : ∀ i, T i → S i ∨ a.heap.size ≤ i) : Kept S a c :=
  ⟨k.os.trans h.os, k.tape.trans h.tape, k.output.trans h.output, Nat.le_trans h.size k.size, fun i hi hs => (k.block i (Nat.lt_of_lt_of_le hi h.size) (fun ht => (hT i ht).elim hs (by omega))).trans (h.block i hi hs)⟩
theorem Kept.trans' {S : Nat → Prop} {a b c : World} (h : Kept S a b) (k : Kept (More S a.heap.size) b c) : Kept S a c := h.trans k (fun _ hi => hi)
theorem Kept.mono {S T : Nat → Prop} {a b : World} (h : Kept S a b) (hS : ∀ i, S i → T i) : Kept T a b := ⟨h.os, h.tape, h.output, h.size, fun i hi ht => h.block i hi (fun hs => ht (hS i hs))⟩
theorem Kept.ofBelow {S : Nat → Prop} {a b : World} (h : Below a.heap.size a b) : Kept S a b := ⟨h.os, h.tape, h.output, h.size, fun i hi _ => h.block i hi⟩
theorem Kept.toBelow {S : Nat → Prop} {a b : World} {B : Nat} (h : Kept S a b) (hB : B ≤ a.heap.size) (hS : ∀ i, S i → B ≤ i) : Below B a b :=
  ⟨h.os, h.tape, h.output, h.size, fun i hi => h.block i (by omega) (fun hs => by have := hS i hs; omega)⟩
theorem Kept.ofGrown {S : Nat → Prop} {a b : World} {r : Option Nat} (h : a.grownBy b r) (hr : ∀ k, r = some k → S k) : Kept S a b :=
  ⟨h.os, h.tape, h.output, h.size, fun i hi hs => h.block i hi (fun e => hs (hr i e.symm))⟩
theorem Kept.setCell (S : Nat → Prop) (w : World) {b i : Nat} (hb : S b) (v : Value) : Kept S w (w.setCell ⟨b, i, none⟩ v) :=
  ⟨rfl, rfl, rfl, by simp [World.setCell], fun k _ hk => Below.heap_setCell _ _ _ _ (fun e => hk (by simp at e; exact e ▸ hb))⟩
end Go.Proofs.YtefddiikdamnbaaGreatDoor

/- What a disk holds (its files, its raw writes), where it lies, and what of it stands when something is written. No program's function is met here. -/
set_option maxRecDepth 100000
namespace Go.Proofs.YtefddiikdamnbaaGreatDoor
open Go.RowKit

/-- A raw write. -/
inductive RawOp where
  | put (f at' : Nat) (s : ByteArray)
  | trim (f n : Nat)

def putL (l : List UInt8) (at' : Nat) (cs : List UInt8) : List UInt8 := splice (l ++ List.replicate (at' + cs.length - l.length) 0) at' cs
def upd {α : Type} (F : Nat → α) (f : Nat) (x : α) : Nat → α := fun i => if i = f then x else F i
theorem upd_same {α : Type} (F : Nat → α) (f : Nat) (x : α) : upd F f x f = x := by simp [upd]
theorem upd_other {α : Type} (F : Nat → α) {f i : Nat} (x : α) (h : i ≠ f) : upd F f x i = F i := by simp [upd, h]
theorem putL_length (l : List UInt8) (at' : Nat) (cs : List UInt8) : (putL l at' cs).length = max l.length (at' + cs.length) := by
  unfold putL
  rw [length_splice]
  · simp; omega
  · simp; omega

def RawOp.val : RawOp → Value
  | .put f at' s => .iface 242 (.agg #[.int .i64 f, .int .i64 at', .string s])
  | .trim f n => .iface 281 (.agg #[.int .i64 f, .int .i64 n])
def RawOp.run : RawOp → (Nat → List UInt8) → (Nat → List UInt8)
  | .put f at' s, F => upd F f (putL (F f) at' s.data.toList)
  | .trim f n, F => upd F f ((F f).take n)
def RawOp.Ok : RawOp → (Nat → List UInt8) → Prop
  | .put f at' s, _ => f < 4 ∧ at' + s.size ≤ 4194304
  | .trim f n, F => f < 4 ∧ n ≤ (F f).length
def play (ops : List RawOp) : Nat → List UInt8 := ops.foldl (fun F o => o.run F) (fun _ => [])
def OkAll (ops : List RawOp) : Prop := ∀ (i : Nat) (o : RawOp), ops[i]? = some o → RawOp.Ok o (play (ops.take i))

theorem play_snoc (ops : List RawOp) (o : RawOp) : play (ops ++ [o]) = o.run (play ops) := by simp [play]
theorem okAll_nil : OkAll [] := by intro i o h; simp at h
theorem okAll_snoc {ops : List RawOp} {o : RawOp} (h : OkAll ops) (ho : o.Ok (play ops)) : OkAll (ops ++ [o]) := by
  intro i x hx
  rw [List.getElem?_append] at hx
  split at hx
  · rename_i hi
    rw [List.take_append_of_le_length (by omega)]
    exact h i x hx
  · rename_i hi
    have hlt := (List.getElem?_eq_some_iff.1 hx).1
    simp at hlt
    have : i = ops.length := by omega
    subst this
    simp at hx
    subst hx
    simpa using ho
theorem run_length {o : RawOp} {F : Nat → List UInt8} (h : ∀ i, (F i).length ≤ 4194304) (ho : o.Ok F) : ∀ i, (o.run F i).length ≤ 4194304 := by
  intro i
  cases o with
  | put f at' s =>
    have hs : s.data.toList.length = s.size := rfl
    simp only [RawOp.run, upd]
    split
    · rw [putL_length, hs]; have := h f; have := ho.2; omega
    · exact h i
  | trim f n =>
    simp only [RawOp.run, upd]
    split
    · rw [List.length_take]; have := h f; omega
    · exact h i
theorem play_length {ops : List RawOp} (h : OkAll ops) : ∀ i, (play ops i).length ≤ 4194304 := by
  have H : ∀ n, n ≤ ops.length → ∀ i, (play (ops.take n) i).length ≤ 4194304 := by
    intro n
    induction n with
    | zero => intro _ i; simp [play]
    | succ n ih =>
      intro hn
      rw [List.take_succ_eq_append_getElem (by omega), play_snoc]
      exact run_length (ih (by omega)) (h n _ (List.getElem?_eq_getElem (by omega)))
  have := H ops.length (Nat.le_refl _)
  rwa [List.take_length] at this

/-- A disk lies at block d, and holds these files and these raw writes; all its blocks are of S. -/
structure DiskF (S : Nat → Prop) (d : Nat) (F : Nat → List UInt8) (ops : List RawOp) (vs : Nat → Value) (w : World) : Prop where
  own : S d
  blk : w.heap[d]? = some (.cells #[.pointer (some ⟨d, 0, none⟩), vs 0, vs 1, vs 2, vs 3, vs 4] 118 (0, 0))
  file : ∀ i, i < 4 → Bytes w (vs i) (F i)
  done : w.ownsRow 0 277 1 (vs 4) ops.length (ops.map RawOp.val)
  foot : ∀ i k, i < 5 → (vs i).ownBlock = some k → S k ∧ k ≠ d
  inj : ∀ i j k, i < 5 → j < 5 → (vs i).ownBlock = some k → (vs j).ownBlock = some k → i = j

theorem DiskF.lt {S : Nat → Prop} {d : Nat} {F : Nat → List UInt8} {ops : List RawOp} {vs : Nat → Value} {w : World} (h : DiskF S d F ops vs w) : d < w.heap.size := (Array.getElem?_eq_some_iff.1 h.blk).1
theorem DiskF.ltV {S : Nat → Prop} {d : Nat} {F : Nat → List UInt8} {ops : List RawOp} {vs : Nat → Value} {w : World} (h : DiskF S d F ops vs w) : ∀ i k, i < 5 → (vs i).ownBlock = some k → k < w.heap.size := by
  intro i k hi hk
  by_cases h4 : i = 4
  · subst h4; exact (h.done.lt k hk).2
  · exact (World.ownsRow.lt (h.file i (by omega)) k hk).2
theorem DiskF.mono {S T : Nat → Prop} {d : Nat} {F : Nat → List UInt8} {ops : List RawOp} {vs : Nat → Value} {w : World} (h : DiskF S d F ops vs w) (hS : ∀ i, S i → T i) : DiskF T d F ops vs w :=
  ⟨hS d h.own, h.blk, h.file, h.done, fun i k hi hk => ⟨hS k (h.foot i k hi hk).1, (h.foot i k hi hk).2⟩, h.inj⟩
theorem DiskF.kept {S T : Nat → Prop} {d : Nat} {F : Nat → List UInt8} {ops : List RawOp} {vs : Nat → Value} {w w' : World} (h : DiskF S d F ops vs w) (hk : Kept T w w') (hd : ∀ k, k < w.heap.size → S k → ¬ T k) : DiskF S d F ops vs w' :=
  ⟨h.own, by rw [hk.block d h.lt (hd d h.lt h.own)]; exact h.blk,
   fun i hi => ownsRow_of_block (h.file i hi) (fun k hkk => hk.block k (h.ltV i k (by omega) hkk) (hd k (h.ltV i k (by omega) hkk) (h.foot i k (by omega) hkk).1)),
   ownsRow_of_block h.done (fun k hkk => hk.block k (h.ltV 4 k (by omega) hkk) (hd k (h.ltV 4 k (by omega) hkk) (h.foot 4 k (by omega) hkk).1)),
   h.foot, h.inj⟩
theorem DiskF.below {S : Nat → Prop} {d : Nat} {F : Nat → List UInt8} {ops : List RawOp} {vs : Nat → Value} {w w' : World} (h : DiskF S d F ops vs w) (hk : Below w.heap.size w w') : DiskF S d F ops vs w' :=
  h.kept (Kept.ofBelow (S := fun _ => False) hk) (fun _ _ _ => id)

theorem disk_new (S : Nat → Prop) (w : World) (hS : S w.heap.size) : DiskF S w.heap.size (fun _ => []) [] (fun _ => .slice none 0 0) (w.alloc (.cells (newCells w.heap.size) 118)) :=
  ⟨hS, heap_alloc_new w _, fun _ _ => World.ownsRow_nil _ _ _ _, World.ownsRow_nil _ _ _ _, fun _ k _ h => by simp [Value.ownBlock] at h, fun _ _ k _ _ h => by simp [Value.ownBlock] at h⟩

/-- Which block a disk's cell's value lies in, behind a store into one cell. -/
theorem DiskF.setV {S : Nat → Prop} {d : Nat} {F F' : Nat → List UInt8} {ops ops' : List RawOp} {vs : Nat → Value} {w w1 : World} (h : DiskF S d F ops vs w) {f : Nat} (hf : f < 5) {v' : Value}
    (hg : Grew w w1 (vs f) v') (hF : ∀ i, i < 4 → Bytes w1 (upd vs f v' i) (F' i)) (hD : w1.ownsRow 0 277 1 (upd vs f v' 4) ops'.length (ops'.map RawOp.val)) :
    DiskF (More S w.heap.size) d F' ops' (upd vs f v') (w1.setCell ⟨d, 1 + f, none⟩ v') ∧ Kept S w (w1.setCell ⟨d, 1 + f, none⟩ v') := by
  have hdw := h.lt
  have hb1 : w1.heap[d]? = w.heap[d]? := hg.1.block d hdw (fun e => (h.foot f d hf e.symm).2 rfl)
  have hne : ∀ i k, i < 5 → (upd vs f v' i).ownBlock = some k → More S w.heap.size k ∧ k ≠ d := by
    intro i k hi hk
    by_cases hif : i = f
    · subst hif
      rw [upd_same] at hk
      rcases hg.2 k hk with h1 | h1
      · exact ⟨.inl (h.foot i k hi h1).1, (h.foot i k hi h1).2⟩
      · exact ⟨.inr h1, by omega⟩
    · rw [upd_other _ _ hif] at hk
      exact ⟨.inl (h.foot i k hi hk).1, (h.foot i k hi hk).2⟩
  have hset : ∀ k, k ≠ d → (w1.setCell ⟨d, 1 + f, none⟩ v').heap[k]? = w1.heap[k]? := fun k hk => Below.heap_setCell _ _ _ _ hk
  refine ⟨⟨.inl h.own, ?_, ?_, ?_, hne, ?_⟩, ?_⟩
  · have hblk := h.blk
    rw [← hb1] at hblk
    have : f = 0 ∨ f = 1 ∨ f = 2 ∨ f = 3 ∨ f = 4 := by omega
    simp only [World.setCell, Array.getElem?_modify, if_true, hblk, Option.map_some]
    rcases this with rfl | rfl | rfl | rfl | rfl <;> simp [upd]
  · intro i hi
    exact ownsRow_of_block (hF i hi) (fun k hk => hset k (hne i k (by omega) hk).2)
  · exact ownsRow_of_block hD (fun k hk => hset k (hne 4 k (by omega) hk).2)
  · intro i j k hi hj hik hjk
    by_cases hif : i = f
    · by_cases hjf : j = f
      · omega
      · exfalso
        subst hif
        rw [upd_same] at hik
        rw [upd_other _ _ hjf] at hjk
        rcases hg.2 k hik with h1 | h1
        · exact hjf (h.inj i j k hi hj h1 hjk).symm
        · have := h.ltV j k hj hjk; omega
    · by_cases hjf : j = f
      · exfalso
        subst hjf
        rw [upd_same] at hjk
        rw [upd_other _ _ hif] at hik
        rcases hg.2 k hjk with h1 | h1
        · exact hif (h.inj i j k hi hj hik h1)
        · have := h.ltV i k hi hik; omega
      · rw [upd_other _ _ hif] at hik
        rw [upd_other _ _ hjf] at hjk
        exact h.inj i j k hi hj hik hjk
  · exact (Kept.ofGrown hg.1 (fun k hk => (h.foot f k hf hk).1)).trans (Kept.setCell S w1 h.own v') (fun _ hi => .inl hi)

theorem DiskF.setFile {S : Nat → Prop} {d : Nat} {F : Nat → List UInt8} {ops : List RawOp} {vs : Nat → Value} {w w1 : World} (h : DiskF S d F ops vs w) {f : Nat} (hf : f < 4) {v' : Value} {l : List UInt8}
    (hg : Grew w w1 (vs f) v') (hl : Bytes w1 v' l) :
    DiskF (More S w.heap.size) d (upd F f l) ops (upd vs f v') (w1.setCell ⟨d, 1 + f, none⟩ v') ∧ Kept S w (w1.setCell ⟨d, 1 + f, none⟩ v') := by
  refine h.setV (by omega) hg ?_ ?_
  · intro i hi
    by_cases hif : i = f
    · subst hif; rw [upd_same, upd_same]; exact hl
    · rw [upd_other _ _ hif, upd_other _ _ hif]
      exact ownsRow_of_block (h.file i hi) (fun k hk => hg.1.block k (h.ltV i k (by omega) hk) (fun e => hif (h.inj i f k (by omega) (by omega) hk e.symm)))
  · rw [upd_other _ _ (by omega : 4 ≠ f)]
    exact ownsRow_of_block h.done (fun k hk => hg.1.block k (h.ltV 4 k (by omega) hk) (fun e => by have := h.inj 4 f k (by omega) (by omega) hk e.symm; omega))

theorem DiskF.setDone {S : Nat → Prop} {d : Nat} {F : Nat → List UInt8} {ops : List RawOp} {vs : Nat → Value} {w w1 : World} (h : DiskF S d F ops vs w) {v' : Value} {o : RawOp}
    (hg : Grew w w1 (vs 4) v') (hl : w1.ownsRow 0 277 1 v' (ops.length + 1) (ops.map RawOp.val ++ [o.val])) :
    DiskF (More S w.heap.size) d F (ops ++ [o]) (upd vs 4 v') (w1.setCell ⟨d, 5, none⟩ v') ∧ Kept S w (w1.setCell ⟨d, 5, none⟩ v') := by
  refine h.setV (f := 4) (by omega) hg ?_ ?_
  · intro i hi
    rw [upd_other _ _ (by omega : i ≠ 4)]
    exact ownsRow_of_block (h.file i hi) (fun k hk => hg.1.block k (h.ltV i k (by omega) hk) (fun e => by have := h.inj i 4 k (by omega) (by omega) hk e.symm; omega))
  · rw [upd_same]
    simpa using hl

/-- A disk that New or Cut gave, and what it has been through. -/
def DiskAt (S : Nat → Prop) (d : Nat) (ops : List RawOp) (w : World) : Prop := OkAll ops ∧ ∃ vs, DiskF S d (play ops) ops vs w

theorem DiskAt.mono {S T : Nat → Prop} {d : Nat} {ops : List RawOp} {w : World} (h : DiskAt S d ops w) (hS : ∀ i, S i → T i) : DiskAt T d ops w := ⟨h.1, h.2.imp fun _ h => h.mono hS⟩
theorem DiskAt.below {S : Nat → Prop} {d : Nat} {ops : List RawOp} {w w' : World} (h : DiskAt S d ops w) (hk : Below w.heap.size w w') : DiskAt S d ops w' := ⟨h.1, h.2.imp fun _ h => h.below hk⟩
theorem DiskAt.kept {S T : Nat → Prop} {d : Nat} {ops : List RawOp} {w w' : World} (h : DiskAt S d ops w) (hk : Kept T w w') (hd : ∀ k, k < w.heap.size → S k → ¬ T k) : DiskAt S d ops w' := ⟨h.1, h.2.imp fun _ h => h.kept hk hd⟩
theorem DiskAt.lt {S : Nat → Prop} {d : Nat} {ops : List RawOp} {w : World} (h : DiskAt S d ops w) : d < w.heap.size := h.2.elim fun _ h => h.lt
theorem DiskAt.at {S : Nat → Prop} {d : Nat} {ops : List RawOp} {w : World} (h : DiskAt S d ops w) : S d := h.2.elim fun _ h => h.own
theorem DiskAt.self {S : Nat → Prop} {d : Nat} {ops : List RawOp} {w : World} (h : DiskAt S d ops w) : w.cell? ⟨d, 0, none⟩ = some (.pointer (some ⟨d, 0, none⟩)) := by
  obtain ⟨vs, h⟩ := h.2
  rw [Lib.cell_of_heap h.blk]; rfl
theorem DiskF.cellV {S : Nat → Prop} {d : Nat} {F : Nat → List UInt8} {ops : List RawOp} {vs : Nat → Value} {w : World} (h : DiskF S d F ops vs w) {i : Nat} (hi : i < 5) : w.cell? ⟨d, 1 + i, none⟩ = some (vs i) := by
  rw [Lib.cell_of_heap h.blk]
  have : i = 0 ∨ i = 1 ∨ i = 2 ∨ i = 3 ∨ i = 4 := by omega
  rcases this with rfl | rfl | rfl | rfl | rfl <;> rfl
end Go.Proofs.YtefddiikdamnbaaGreatDoor

/- The contracts of the raw writes put and trim, done on files. -/
set_option maxRecDepth 100000
namespace Go.Proofs.YtefddiikdamnbaaGreatDoor
open Go.RowKit

theorem Bytes.alloc {w : World} {v : Value} {l : List UInt8} (h : Bytes w v l) (o : Obj) : Bytes (w.alloc o) v l := World.ownsRow.alloc h o

theorem Bytes.shape {w : World} {v : Value} {l : List UInt8} (h : Bytes w v l) : ∃ ao n cap, v = .slice ao n cap ∧ n = l.length ∧ n ≤ cap ∧ (∀ a, ao = some a → a.off = 0 ∧ a.spot = none ∧ v.ownBlock = some a.block) ∧ (ao = none → n = 0) := by
  rcases h.2 with ⟨rfl, h0⟩ | ⟨g, cap, cur, rfl, _, _, hc, _⟩
  · exact ⟨none, 0, 0, rfl, h0.symm, by omega, by intro a ha; simp at ha, fun _ => rfl⟩
  · exact ⟨some ⟨g, 0, none⟩, _, cap, rfl, rfl, hc, by intro a ha; simp at ha; subst ha; exact ⟨rfl, rfl, rfl⟩, by intro ha; simp at ha⟩

/-- A string is laid over a row of bytes from a place on, as a step of a region. -/
theorem step_copy_bytes {ops : Array Oper} {o : Oper} {a : Act} {w : World} {K : Act → World → Prop} {Q : Exit → Act → World → Prop} {E : Prop} (hgd : o.guard = none) (d s : Operand)
    (ho : o.op = .call { callee := .builtin .copy, args := #[d, s], argTypes := #[113, 9] }) (v : Value) (l : List UInt8) (hB : Bytes w v l) (at' : Nat) (str : ByteArray) (hfit : at' + str.size ≤ l.length)
    (dp : Option Addr) (dl dc : Nat) (hd : a.eval d = .slice dp dl dc) (hdl : 0 < str.size → dl = l.length - at') (hdp : 0 < str.size → ∃ g, v.ownBlock = some g ∧ dp = some ⟨g, at', none⟩) (hs : a.eval s = .string str)
    (h : ∀ w', Bytes w' v (splice l at' str.data.toList) → w.grownBy w' v.ownBlock → K (a.put o.dst (goInt str.size)) w') :
    if Region.wanted o (yielded ops a.tmps) = true then Oper.wp Tryz.prog o a w K Q else E := by
  have hw : Region.wanted o (yielded ops a.tmps) = true := by simp [Region.wanted, hgd]
  rw [if_pos hw]
  obtain ⟨i, hi, hz, hsz, hby⟩ := info_parts infoByte
  have hinfo : (Tryz.prog.info? 5).map (·.size) = some 1 := by rw [hi]; simp [hsz]
  have hstr : str.data.toList.length = str.size := rfl
  by_cases h0 : str.size = 0
  · have hrun := Lib.run_copy_empty_string (P := Tryz.prog) w 113 9 o.type 5 dp dl dc str Tryz.underlying113 (by rw [hinfo]; rfl) h0
    have hnil : str.data.toList = [] := List.eq_nil_of_length_eq_zero (by rw [hstr, h0])
    unfold Oper.wp
    simp [execOp, ho, resolve, invoke, builtin, hd, hs, hrun, Result.andThen]
    have := h w (by rw [hnil]; simpa [splice] using hB) ⟨rfl, rfl, rfl, Nat.le_refl _, fun _ _ _ => rfl⟩
    rw [h0] at this
    exact this
  · obtain ⟨g, hg, rfl⟩ := hdp (by omega)
    have hdl' := hdl (by omega)
    rcases hB.2 with ⟨rfl, _⟩ | ⟨g', cap, cur, rfl, _, hgb, hnc, hcm, hcs, ht⟩
    · simp [Value.ownBlock] at hg
    · obtain rfl : g' = g := by simpa [Value.ownBlock] using hg
      have hrun := Lib.run_copy_row_string (P := Tryz.prog) w 113 9 o.type 5 g' at' dl dc str cur 5 Tryz.underlying113 hinfo hgb (by omega) (by omega)
      unfold Oper.wp
      simp [execOp, ho, resolve, invoke, builtin, hd, hs, hrun, Result.andThen]
      have hsl : (splice l at' str.data.toList).length = l.length := length_splice _ _ _ (by rw [hstr]; exact hfit)
      have := h (w.setRow g' (cur.toList.take at' ++ Lib.byteCells str.data.toList ++ cur.toList.drop (at' + str.size)).toArray) ?_ ⟨rfl, rfl, rfl, by simp, fun k _ hk => setRow_other w g' k _ (fun e => hk (by simp [Value.ownBlock, e]))⟩
      · rw [Oper.upon_value]
        simpa using this
      · show World.ownsRow _ 0 5 1 _ (splice l at' str.data.toList).length _
        rw [hsl]
        refine ⟨by rw [Lib.byteCells_length, hsl]; omega, .inr ⟨g', cap, _, rfl, Nat.zero_le _, setRow_heap w g' cur _ 5 _ hgb, hnc, hcm, ?_, ?_⟩⟩
        · simp only [List.size_toArray, List.length_append, List.length_take, List.length_drop, Array.length_toList, Lib.byteCells_length, hstr]
          omega
        · unfold splice
          simp only [Nat.mul_one, Lib.byteCells_append, List.append_assoc] at ht ⊢
          rw [← byteCells_take]
          have hd2 : Lib.byteCells (List.drop (at' + str.data.toList.length) l) = List.drop (at' + str.size) (Lib.byteCells l) := by simp [Lib.byteCells, List.map_drop]
          rw [hd2, ← ht, List.take_append, List.take_append, List.take_take, List.take_take]
          simp only [List.length_take, Array.length_toList, Lib.byteCells_length, hstr]
          have e1 : min l.length at' = at' := by omega
          have e2 : min at' l.length = at' := by omega
          have e3 : min at' cur.size = at' := by omega
          rw [e1, e2, e3]
          congr 1
          rw [List.take_of_length_le (by rw [Lib.byteCells_length, hstr]; omega)]
          congr 1
          rw [List.take_drop]
          congr 2
          omega
theorem grown_old {w W w2 : World} {o : Obj} {row : Option Nat} (hg : W.grownBy w2 row) (hW : W.heap = (w.alloc o).heap) {k : Nat} (hk : k < w.heap.size) (hne : some k ≠ row) : w2.heap[k]? = w.heap[k]? := by
  rw [hg.block k (by rw [hW]; simp; omega) hne, hW]
  exact Below.heap_alloc w o k hk
theorem grown_new {w W w2 : World} {o : Obj} {row : Option Nat} (hg : W.grownBy w2 row) (hW : W.heap = (w.alloc o).heap) (hne : some w.heap.size ≠ row) : w2.heap[w.heap.size]? = some o := by
  rw [hg.block w.heap.size (by rw [hW]; simp) hne, hW]
  exact heap_alloc_new w o

set_option maxHeartbeats 1000000 in
theorem putDo (d f at' : Nat) (s : ByteArray) (v : Value) (l : List UInt8) (w : World) (hf : f < 4) (hat : at' + s.size ≤ 4194304) (hl : l.length ≤ 4194304)
    (hc : w.cell? ⟨d, 1 + f, none⟩ = some v) (hfr : w.frozen? ⟨d, 1 + f, none⟩ = false) (hdw : d < w.heap.size) (hown : Bytes w v l) (hne : v.ownBlock ≠ some d) :
    Calls Tryz.prog 265 #[.agg #[.int .i64 f, .int .i64 at', .string s], .pointer (some ⟨d, 1, none⟩)] w fun e w' => e = .returned (.tuple #[]) ∧
      ∃ v' w1, Bytes w1 v' (putL l at' s.data.toList) ∧ Grew w w1 v v' ∧ w' = w1.setCell ⟨d, 1 + f, none⟩ v' := by
  have hstr : s.data.toList.length = s.size := rfl
  obtain ⟨ao, n, cap, rfl, hn, hlc, hao, hnone⟩ := hown.shape
  have HO := Lib.hid hown; clear hown
  have HN := Lib.hid hne; clear hne
  have HL := Lib.hid hn; clear hn
  by_cases hgt : (n : Int) < at' + s.size
  · obtain ⟨k, hk⟩ : ∃ k : Nat, at' + s.size - n = k := ⟨_, rfl⟩
    have hk0 : 0 < k := by omega
    have hki : ((at' : Int) + s.size - n) = (k : Int) := by omega
    obtain ⟨v', w1, hr, hB1, hG1⟩ := append_zeros ((w.alloc (.cells #[.int .i64 f, .int .i64 at', .string s] 242)).drew) (.slice ao n cap) l (HO.out.alloc _) k hk0 (by omega) 113
    obtain ⟨ao', n', cap', rfl, hn', hlc', hao', hnone'⟩ := hB1.shape
    rw [List.length_append, List.length_replicate, ← HL.out] at hn'
    have hn2 : n' = at' + s.size := by omega
    rw [← hki] at hr
    have hlt : ∀ k, (Value.slice ao n cap).ownBlock = some k → k < w.heap.size := fun k hk => (World.ownsRow.lt HO.out k hk).2
    have hbd1 : w1.heap[d]? = w.heap[d]? := grown_old (w := w) (o := .cells #[.int .i64 f, .int .i64 at', .string s] 242) hG1.1 rfl hdw (fun e => HN.out e.symm)
    have hbn1 := grown_new (w := w) (o := .cells #[.int .i64 f, .int .i64 at', .string s] 242) hG1.1 rfl (fun e => absurd (hlt _ e.symm) (Nat.lt_irrefl _))
    have hne' : ∀ j, (Value.slice ao' n' cap').ownBlock = some j → (Value.slice ao n cap).ownBlock = some j ∨ w.heap.size < j := fun j hj => (hG1.2 j hj).imp id (fun h => by simp at h; omega)
    have hq1 : w1.cell? ⟨w.heap.size, 1, none⟩ = some (.int .i64 at') := by rw [Lib.cell_of_heap hbn1]; rfl
    have hq2 : w1.cell? ⟨w.heap.size, 2, none⟩ = some (.string s) := by rw [Lib.cell_of_heap hbn1]; rfl
    have hle : at' ≤ n' := by omega
    have hfit : at' + s.size ≤ (l ++ List.replicate k 0).length := by have := HL.out; simp; omega
    have hdl : 0 < s.size → n' - at' = (l ++ List.replicate k 0).length - at' := by intro _; have := HL.out; simp; omega
    obtain ⟨ax, hax⟩ : ∃ ax, (if cap' = at' then ao' else Option.map (fun x => x.add at') ao') = ax := ⟨_, rfl⟩
    have hdp : 0 < s.size → ∃ g, (Value.slice ao' n' cap').ownBlock = some g ∧ ax = some ⟨g, at', none⟩ := by
      intro h0
      rw [← hax]
      cases ao' with
      | none => have := hnone' rfl; omega
      | some a =>
        obtain ⟨h1, h2, h3⟩ := hao' a rfl
        refine ⟨_, h3, ?_⟩
        rw [if_neg (by omega)]
        cases a with
        | mk b o sp => simp at h1 h2; subst h1 h2; simp [Addr.add, eq_comm]
    have HP := Lib.hid hdp; clear hdp
    have HDL := Lib.hid hdl; clear hdl
    have HN' := Lib.hid hne'; clear hne'
    have HB1 := Lib.hid hB1; clear hB1
    have HG1 := Lib.hid hG1; clear hG1
    have HBD := Lib.hid hbd1; clear hbd1
    have HBN := Lib.hid hbn1; clear hbn1
    have HK := Lib.hid hk; clear hk hki
    have HLT := Lib.hid hlt; clear hlt
    clear hao' hnone' hao hnone hn' hn2
    go_enter Tryz.func265, Tryz.ntmps265
    go_wp2
    go_region
    go_wp2_with (at_builtin; refine Lib.wpList_append_run _ rfl _ _ 113 3 rfl _ _ rfl rfl _ _ hr ?_)
    go_region_law (refine step_copy_bytes rfl _ _ rfl (.slice ao' n' cap') (l ++ List.replicate k 0) HB1.out at' s hfit _ _ _ rfl HDL.out HP.out rfl ?_; intro w2 hB2 hg2)
    all_goals
      have hsz : w.heap.size < w1.heap.size := (Array.getElem?_eq_some_iff.1 HBN.out).1
      have hbd : w2.heap[d]? = w.heap[d]? := (hg2.block d (show d < w1.heap.size by omega) (fun e => (HN'.out d e.symm).elim (fun h => HN.out h) (by omega))).trans HBD.out
      have hbn : w2.heap[w.heap.size]? = some (.cells #[.int .i64 f, .int .i64 at', .string s] 242) := (hg2.block w.heap.size (show w.heap.size < w1.heap.size from hsz) (fun e => (HN'.out _ e.symm).elim (fun h => absurd (HLT.out _ h) (Nat.lt_irrefl _)) (by omega))).trans HBN.out
      have hc2 : w2.cell? ⟨d, 1 + f, none⟩ = some (.slice ao n cap) := by rw [World.cell?_of_block (w := w) hbd]; exact hc
      have hf2 : w2.frozen? ⟨d, 1 + f, none⟩ = false := by rw [World.frozen?_of_block (w := w) hbd]; exact hfr
      have hq0 : w2.cell? ⟨w.heap.size, 0, none⟩ = some (.int .i64 f) := by rw [Lib.cell_of_heap hbn]; rfl
      have hG : Grew w w2.drew (.slice ao n cap) (.slice ao' n' cap') := by
        refine ⟨⟨hg2.os.trans HG1.out.1.os, hg2.tape.trans HG1.out.1.tape, hg2.output.trans HG1.out.1.output, ?_, ?_⟩, ?_⟩
        · have := hg2.size
          have h3 : w1.heap.size ≤ w2.heap.size := this
          show w.heap.size ≤ w2.heap.size
          omega
        · intro j hj hne
          refine (hg2.block j (show j < w1.heap.size by omega) (fun e => ?_)).trans (grown_old (w := w) (o := .cells #[.int .i64 f, .int .i64 at', .string s] 242) HG1.out.1 rfl hj hne)
          rcases HN'.out j e.symm with h | h
          · exact hne h.symm
          · omega
        · intro j hj
          rcases HN'.out j hj with h | h
          · exact .inl h
          · exact .inr (by omega)
      have HG := Lib.hid hG; clear hG
      have HB2 := Lib.hid hB2; clear hB2
      clear hg2
      have hf4 : (f : Int) < 4 := by omega
      go_wp2
      go_region
      go_wp2
      go_end0
      refine ⟨rfl, _, w2.drew, ?_, HG.out, rfl⟩
      have hq : putL l at' s.data.toList = splice (l ++ List.replicate k 0) at' s.data.toList := by
        unfold putL
        rw [hstr, ← HL.out, HK.out]
      rw [hq]
      exact HB2.out
  · have hle : at' ≤ n := by omega
    have hfit : at' + s.size ≤ l.length := by have := HL.out; omega
    have hdl : 0 < s.size → n - at' = l.length - at' := by intro _; rw [← HL.out]
    obtain ⟨ax, hax⟩ : ∃ ax, (if cap = at' then ao else Option.map (fun x => x.add at') ao) = ax := ⟨_, rfl⟩
    have hdp : 0 < s.size → ∃ g, (Value.slice ao n cap).ownBlock = some g ∧ ax = some ⟨g, at', none⟩ := by
      intro h0
      rw [← hax]
      cases ao with
      | none => have := hnone rfl; omega
      | some a =>
        obtain ⟨h1, h2, h3⟩ := hao a rfl
        refine ⟨_, h3, ?_⟩
        rw [if_neg (by omega)]
        cases a with
        | mk b o sp => simp at h1 h2; subst h1 h2; simp [Addr.add, eq_comm]
    have HP := Lib.hid hdp; clear hdp
    have HDL := Lib.hid hdl; clear hdl
    clear hao hnone
    go_enter Tryz.func265, Tryz.ntmps265
    go_wp2
    go_region
    go_wp2
    go_region_law (refine step_copy_bytes rfl _ _ rfl (.slice ao n cap) l (HO.out.alloc _) at' s hfit _ _ _ rfl HDL.out HP.out rfl ?_; intro w2 hB2 hg2)
    all_goals
      have hlt : ∀ k, (Value.slice ao n cap).ownBlock = some k → k < w.heap.size := fun k hk => (World.ownsRow.lt HO.out k hk).2
      have hbd : w2.heap[d]? = w.heap[d]? := grown_old (w := w) (o := .cells #[.int .i64 f, .int .i64 at', .string s] 242) hg2 rfl hdw (fun e => HN.out e.symm)
      have hbn := grown_new (w := w) (o := .cells #[.int .i64 f, .int .i64 at', .string s] 242) hg2 rfl (fun e => absurd (hlt _ e.symm) (Nat.lt_irrefl _))
      have hc2 : w2.cell? ⟨d, 1 + f, none⟩ = some (.slice ao n cap) := by rw [World.cell?_of_block (w := w) hbd]; exact hc
      have hf2 : w2.frozen? ⟨d, 1 + f, none⟩ = false := by rw [World.frozen?_of_block (w := w) hbd]; exact hfr
      have hq0 : w2.cell? ⟨w.heap.size, 0, none⟩ = some (.int .i64 f) := by rw [Lib.cell_of_heap hbn]; rfl
      have hG : Grew w w2.drew (.slice ao n cap) (.slice ao n cap) := ⟨⟨hg2.os, hg2.tape, hg2.output, by have := hg2.size; simp at this; show w.heap.size ≤ w2.heap.size; omega, fun k hk hne => grown_old (w := w) (o := .cells #[.int .i64 f, .int .i64 at', .string s] 242) hg2 rfl hk hne⟩, fun k hk => .inl hk⟩
      have HG := Lib.hid hG; clear hG
      have HB2 := Lib.hid hB2; clear hB2
      clear hg2
      have hf4 : (f : Int) < 4 := by omega
      go_wp2
      go_region
      go_wp2
      go_end0
      refine ⟨rfl, _, w2.drew, ?_, HG.out, rfl⟩
      have hq : putL l at' s.data.toList = splice l at' s.data.toList := by
        unfold putL
        rw [hstr, show at' + s.size - l.length = 0 by omega, List.replicate_zero, List.append_nil]
      rw [hq]
      exact HB2.out

set_option maxHeartbeats 1000000 in
theorem trimDo (d f n0 : Nat) (v : Value) (l : List UInt8) (w : World) (hf : f < 4) (hn0 : n0 ≤ l.length) (_hl : l.length ≤ 4194304)
    (hc : w.cell? ⟨d, 1 + f, none⟩ = some v) (hfr : w.frozen? ⟨d, 1 + f, none⟩ = false) (hdw : d < w.heap.size) (hown : Bytes w v l) :
    Calls Tryz.prog 267 #[.agg #[.int .i64 f, .int .i64 n0], .pointer (some ⟨d, 1, none⟩)] w fun e w' => e = .returned (.tuple #[]) ∧
      ∃ v' w1, Bytes w1 v' (l.take n0) ∧ Grew w w1 v v' ∧ w' = w1.setCell ⟨d, 1 + f, none⟩ v' := by
  obtain ⟨ao, cap, rfl, hnc, hB, hob⟩ := hown.take hn0
  have hBlt : ∀ k, (Value.slice ao n0 cap).ownBlock = some k → k < w.heap.size := fun k hk => (World.ownsRow.lt hB k hk).2
  obtain ⟨ll, hll⟩ : ∃ ll, ll = l.length := ⟨_, rfl⟩
  rw [← hll] at hc hob _hl hn0 ⊢
  have HO := Lib.hid hown; clear hown
  have HB := Lib.hid hB; clear hB
  have HL := Lib.hid hll; clear hll
  have HOB := Lib.hid hob; clear hob
  clear hBlt
  have hf4 : (f : Int) < 4 := by omega
  go_enter Tryz.func267, Tryz.ntmps267
  go_wp2
  go_region
  go_wp2
  go_end0
  refine ⟨rfl, _, (w.alloc (.cells #[.int .i64 f, .int .i64 n0] 281)).drew, HB.out.alloc _, ⟨⟨rfl, rfl, rfl, ?_, ?_⟩, ?_⟩, ?_⟩
  · show w.heap.size ≤ (w.heap.push _).size
    simp
  · intro k hk _
    exact Below.heap_alloc w _ k hk
  · intro k hk
    rw [HOB.out] at hk
    exact .inl hk
  · have := World.setCell_alloc_past (w := w) (.cells #[.int .i64 f, .int .i64 n0] 281) d (1 + f) (.slice ao n0 cap) hdw
    exact (congrArg World.drew this).symm
end Go.Proofs.YtefddiikdamnbaaGreatDoor

/- The contract of a raw write done on a disk: its files are changed, it is kept. -/
set_option maxRecDepth 100000
namespace Go.Proofs.YtefddiikdamnbaaGreatDoor
open Go.RowKit

theorem infoIface : (Tryz.prog.info? 277).map (fun i => (i.zero, i.size, i.bytes)) = some (some .nilIface, 1, 16) := by kernel_rfl

theorem append_done (w : World) (v : Value) (ops : List RawOp) (o : RawOp) (h : w.ownsRow 0 277 1 v ops.length (ops.map RawOp.val)) (hlen : ops.length ≤ 4398046511104) (ad : Addr) (c : Nat) (hc : w.cell? ad = some o.val) (ty : TypeId) :
    ∃ v' w', (Builtin.append_ #[116, 116] ty #[v, .slice (some ad) 1 c]).run Tryz.prog w = .ok v' w' ∧ w'.ownsRow 0 277 1 v' (ops.length + 1) (ops.map RawOp.val ++ [o.val]) ∧ Grew w w' v v' := by
  obtain ⟨i, hi, hz, hs, hby⟩ := info_parts infoIface
  have hnews : ∀ j u, [o.val][j]? = some u → w.cell? (ad.add j) = some u := by
    intro j u hu
    have : j = 0 := by have := (List.getElem?_eq_some_iff.1 hu).1; simp at this; exact this
    subst this
    simp at hu
    subst hu
    rw [show ad.add 0 = ad by cases ad with | mk b o sp => cases sp <;> simp [Addr.add]]
    exact hc
  have h1 : ∀ u ∈ [o.val], u.oneCell' = true := by intro u hu; simp at hu; subst hu; cases o <;> rfl
  obtain ⟨v', w', hr, h2, h3, _⟩ := run_append_own (P := Tryz.prog) w 0 116 ty 277 i .nilIface 1 16 Tryz.underlying116 hi hz hs hby rfl (by decide) v ops.length (ops.map RawOp.val) h ad 1 c [o.val] rfl hnews h1 (by unfold maxLen; omega) (by omega) (Nat.zero_le _)
  refine ⟨v', w', hr, h2, h3, ?_⟩
  intro k hk
  rcases h.2 with ⟨rfl, h0⟩ | ⟨g, cap, cur, rfl, _, hg, hnc, hcm, hcs, ht⟩
  · obtain rfl : ops = [] := List.eq_nil_of_length_eq_zero h0
    obtain ⟨v2, w2, hr2, ho2, _⟩ := run_append_own (P := Tryz.prog) w w.heap.size 116 ty 277 i .nilIface 1 16 Tryz.underlying116 hi hz hs hby rfl (by decide) (.slice none 0 0) 0 [] (World.ownsRow_nil _ _ _ _) ad 1 c [o.val] rfl hnews h1 (by unfold maxLen; omega) (by omega) (Nat.le_refl _)
    rw [hr] at hr2
    cases hr2
    exact .inr (ho2.lt k hk).1
  · by_cases hroom : ops.length + 1 ≤ cap
    · have hr2 := run_append_room (P := Tryz.prog) w 116 ty 277 i Tryz.underlying116 hi g ops.length cap cur hg ad 1 c [o.val] (by rw [hs]; rfl) hnews h1 hroom (by rw [hs]; simp; omega)
      rw [hr] at hr2
      cases hr2
      exact .inl hk
    · have hr2 := run_append_grow (P := Tryz.prog) w 116 ty 277 i .nilIface Tryz.underlying116 hi hz ⟨g, 0, none⟩ ops.length cap (ops.map RawOp.val) (by rw [hs]; simp) (World.ownsRow.cells (w := w) h (g := g) rfl) ad 1 c [o.val] (by rw [hs]; rfl) hnews (by omega) (by omega) (growslice_fits (by omega) (by rw [hby]; omega))
      rw [hr] at hr2
      cases hr2
      simp [Value.ownBlock] at hk
      right; omega

/-- What either raw write does to a disk's files. -/
theorem fileDo (o : RawOp) (S : Nat → Prop) (d : Nat) (F : Nat → List UInt8) (ops : List RawOp) (vs : Nat → Value) (w : World) (h : DiskF S d F ops vs w) (hF : ∀ i, (F i).length ≤ 4194304) (ho : o.Ok F) :
    ∃ (t : TypeId) (xs : Array Value) (g : FuncId), o.val = .iface t (.agg xs) ∧ (t = 242 ∧ g = 265 ∨ t = 281 ∧ g = 267) ∧
      Calls Tryz.prog g #[.agg xs, .pointer (some ⟨d, 1, none⟩)] w fun e w' => e = .returned (.tuple #[]) ∧ ∃ vs', DiskF (More S w.heap.size) d (o.run F) ops vs' w' ∧ Kept S w w' := by
  cases o with
  | put f at' s =>
    obtain ⟨hf, hat⟩ := ho
    refine ⟨242, _, 265, rfl, .inl ⟨rfl, rfl⟩, ?_⟩
    refine (putDo d f at' s (vs f) (F f) w hf hat (hF f) (h.cellV (by omega)) (Lib.frozen_of_heap h.blk _) h.lt (h.file f hf) (fun e => (h.foot f d (by omega) e).2 rfl)).mono ?_
    rintro e w' ⟨rfl, v', w1, hB, hG, rfl⟩
    have := h.setFile hf hG hB
    exact ⟨rfl, _, this.1, this.2⟩
  | trim f n =>
    obtain ⟨hf, hn⟩ := ho
    refine ⟨281, _, 267, rfl, .inr ⟨rfl, rfl⟩, ?_⟩
    refine (trimDo d f n (vs f) (F f) w hf hn (hF f) (h.cellV (by omega)) (Lib.frozen_of_heap h.blk _) h.lt (h.file f hf)).mono ?_
    rintro e w' ⟨rfl, v', w1, hB, hG, rfl⟩
    have := h.setFile hf hG hB
    exact ⟨rfl, _, this.1, this.2⟩

theorem aheadPut (xs : Array Value) (w : World) : (nilAhead 419 242 (.agg xs) "vestibule/disk.do").run Tryz.prog w = .ok (some false) w := by kernel_rfl
theorem aheadTrim (xs : Array Value) (w : World) : (nilAhead 419 281 (.agg xs) "vestibule/disk.do").run Tryz.prog w = .ok (some false) w := by kernel_rfl
theorem methPut (xs : Array Value) (w : World) : (method 419 242 (.agg xs) "vestibule/disk.do").run Tryz.prog w = .ok (265, .agg xs) w := by kernel_rfl
theorem methTrim (xs : Array Value) (w : World) : (method 419 281 (.agg xs) "vestibule/disk.do").run Tryz.prog w = .ok (267, .agg xs) w := by kernel_rfl

set_option maxHeartbeats 1000000 in
theorem do_any (o : RawOp) (S : Nat → Prop) (d : Nat) (ops : List RawOp) (w : World) (h : DiskAt S d ops w) (ho : o.Ok (play ops)) (hlen : ops.length ≤ 4398046511104) :
    Calls Tryz.prog 173 #[.pointer (some ⟨d, 0, none⟩), o.val] w fun e w' => e = .returned (.tuple #[]) ∧ DiskAt (More S w.heap.size) d (ops ++ [o]) w' ∧ Kept S w w' := by
  obtain ⟨hok, vs, h⟩ := h
  have hF := play_length hok
  obtain ⟨t, xs, g, hv, htg, hc⟩ := fileDo o S d (play ops) ops vs w.drew (h.kept (w' := w.drew) (T := fun _ => False) ⟨rfl, rfl, rfl, Nat.le_refl _, fun _ _ _ => rfl⟩ (fun _ _ _ => id)) hF ho
  have HD := Lib.hid h; clear h
  have HO := Lib.hid ho; clear ho
  have HF := Lib.hid hF; clear hF
  have HC := Lib.hid hc; clear hc
  have HV := Lib.hid hv
  rw [hv]
  clear hv
  rcases htg with ⟨rfl, rfl⟩ | ⟨rfl, rfl⟩
  · have ha := aheadPut xs
    have hm := methPut xs
    go_enter Tryz.func173, Tryz.ntmps173
    go_wp2
    go_region_with (go_at_call 265; refine HC.out.mono ?_; rintro e w1 ⟨rfl, h1⟩)
    obtain ⟨vs', h1, hk1⟩ := h1
    have hcx : (w1.alloc (.cells #[Value.iface 242 (.agg xs)] 277)).cell? ⟨w1.heap.size, 0, none⟩ = some o.val := by
      rw [Lib.cell_of_heap (heap_alloc_new w1 _), HV.out]; rfl
    have h2 := h1.below (w' := w1.alloc (.cells #[Value.iface 242 (.agg xs)] 277)) ((Below.refl _ _).alloc (Nat.le_refl _) _)
    obtain ⟨v', w3, hr, how, hG⟩ := append_done (w1.alloc (.cells #[Value.iface 242 (.agg xs)] 277)) (vs' 4) ops o h2.done hlen ⟨w1.heap.size, 0, none⟩ 1 hcx 116
    obtain ⟨gg, nn, cc, rfl⟩ : ∃ gg nn cc, v' = .slice gg nn cc := by
      rcases how.2 with ⟨rfl, _⟩ | ⟨g, cap, cur, rfl, _⟩
      · exact ⟨_, _, _, rfl⟩
      · exact ⟨_, _, _, rfl⟩
    have c5 : w1.cell? ⟨d, 5, none⟩ = some (vs' 4) := h1.cellV (i := 4) (by omega)
    have hdlt := h1.lt
    have hb3 : w3.heap[d]? = some (.cells #[.pointer (some ⟨d, 0, none⟩), vs' 0, vs' 1, vs' 2, vs' 3, vs' 4] 118 (0, 0)) := by
      rw [hG.1.block d (by simp; omega) (fun e => (h1.foot 4 d (by omega) e.symm).2 rfl), Below.heap_alloc w1 _ d hdlt]
      exact h1.blk
    have d5 : w3.cell? ⟨d, 5, none⟩ = some (vs' 4) := by rw [Lib.cell_of_heap hb3]; rfl
    have f5 : w3.frozen? ⟨d, 5, none⟩ = false := Lib.frozen_of_heap hb3 5
    have h4 := h2.setDone hG how
    have H4 := Lib.hid h4; clear h4
    have HG := Lib.hid hG; clear hG
    have HW := Lib.hid how; clear how
    have HX := Lib.hid hcx; clear hcx
    have H2 := Lib.hid h2; clear h2
    have H1 := Lib.hid h1; clear h1
    have HK1 := Lib.hid hk1; clear hk1
    have HB3 := Lib.hid hb3; clear hb3
    go_wp2_with (at_builtin; refine Lib.wpList_append_run _ rfl _ _ 116 116 rfl _ _ rfl rfl _ _ hr ?_)
    go_end0
    have hsz : w.heap.size ≤ w1.heap.size := HK1.out.size
    have hk : Kept S w (w1.alloc (.cells #[Value.iface 242 (.agg xs)] 277)) := (Kept.trans' (S := S) ⟨HK1.out.os, HK1.out.tape, HK1.out.output, hsz, HK1.out.block⟩ (Kept.ofBelow ((Below.refl _ w1).alloc (Nat.le_refl _) _)))
    refine ⟨rfl, ⟨okAll_snoc hok HO.out, upd vs' 4 (.slice gg nn cc), ?_⟩, hk.trans' H4.out.2⟩
    rw [play_snoc]
    refine H4.out.1.mono ?_
    intro i hi
    rcases hi with hi | hi
    · exact hi
    · refine .inr ?_
      simp at hi
      omega
  · have ha := aheadTrim xs
    have hm := methTrim xs
    go_enter Tryz.func173, Tryz.ntmps173
    go_wp2
    go_region_with (go_at_call 267; refine HC.out.mono ?_; rintro e w1 ⟨rfl, h1⟩)
    obtain ⟨vs', h1, hk1⟩ := h1
    have hcx : (w1.alloc (.cells #[Value.iface 281 (.agg xs)] 277)).cell? ⟨w1.heap.size, 0, none⟩ = some o.val := by
      rw [Lib.cell_of_heap (heap_alloc_new w1 _), HV.out]; rfl
    have h2 := h1.below (w' := w1.alloc (.cells #[Value.iface 281 (.agg xs)] 277)) ((Below.refl _ _).alloc (Nat.le_refl _) _)
    obtain ⟨v', w3, hr, how, hG⟩ := append_done (w1.alloc (.cells #[Value.iface 281 (.agg xs)] 277)) (vs' 4) ops o h2.done hlen ⟨w1.heap.size, 0, none⟩ 1 hcx 116
    obtain ⟨gg, nn, cc, rfl⟩ : ∃ gg nn cc, v' = .slice gg nn cc := by
      rcases how.2 with ⟨rfl, _⟩ | ⟨g, cap, cur, rfl, _⟩
      · exact ⟨_, _, _, rfl⟩
      · exact ⟨_, _, _, rfl⟩
    have c5 : w1.cell? ⟨d, 5, none⟩ = some (vs' 4) := h1.cellV (i := 4) (by omega)
    have hdlt := h1.lt
    have hb3 : w3.heap[d]? = some (.cells #[.pointer (some ⟨d, 0, none⟩), vs' 0, vs' 1, vs' 2, vs' 3, vs' 4] 118 (0, 0)) := by
      rw [hG.1.block d (by simp; omega) (fun e => (h1.foot 4 d (by omega) e.symm).2 rfl), Below.heap_alloc w1 _ d hdlt]
      exact h1.blk
    have d5 : w3.cell? ⟨d, 5, none⟩ = some (vs' 4) := by rw [Lib.cell_of_heap hb3]; rfl
    have f5 : w3.frozen? ⟨d, 5, none⟩ = false := Lib.frozen_of_heap hb3 5
    have h4 := h2.setDone hG how
    have H4 := Lib.hid h4; clear h4
    have HG := Lib.hid hG; clear hG
    have HW := Lib.hid how; clear how
    have HX := Lib.hid hcx; clear hcx
    have H2 := Lib.hid h2; clear h2
    have H1 := Lib.hid h1; clear h1
    have HK1 := Lib.hid hk1; clear hk1
    have HB3 := Lib.hid hb3; clear hb3
    go_wp2_with (at_builtin; refine Lib.wpList_append_run _ rfl _ _ 116 116 rfl _ _ rfl rfl _ _ hr ?_)
    go_end0
    have hsz : w.heap.size ≤ w1.heap.size := HK1.out.size
    have hk : Kept S w (w1.alloc (.cells #[Value.iface 281 (.agg xs)] 277)) := (Kept.trans' (S := S) ⟨HK1.out.os, HK1.out.tape, HK1.out.output, hsz, HK1.out.block⟩ (Kept.ofBelow ((Below.refl _ w1).alloc (Nat.le_refl _) _)))
    refine ⟨rfl, ⟨okAll_snoc hok HO.out, upd vs' 4 (.slice gg nn cc), ?_⟩, hk.trans' H4.out.2⟩
    rw [play_snoc]
    refine H4.out.1.mono ?_
    intro i hi
    rcases hi with hi | hi
    · exact hi
    · refine .inr ?_
      simp at hi
      omega
end Go.Proofs.YtefddiikdamnbaaGreatDoor
