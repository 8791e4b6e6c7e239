/- What a method can besides, asked of the value: abilities. -/
import Derived.Test.YtnghhhmhinailaaRU
import Derived.Stop.Asserts
set_option maxRecDepth 100000
namespace Go.Proofs.Ytnghhhmhinailaa.Dm
open Go Go.RowKit

theorem infoStr9 : (Try.prog.info? 9).map (fun i => (i.zero, i.size, i.bytes)) = some (some (.string ⟨#[]⟩), 1, 16) := by kernel_rfl

/-- Texts that lie in a row of their own, from block B on. -/
def SRow (B : Nat) (w : World) (v : Value) (l : List ByteArray) : Prop := w.ownsRow B 9 1 v l.length (l.map Value.string)
theorem SRow.below {B : Nat} {w w' : World} {v : Value} {l : List ByteArray} (h : SRow B w v l) (hb : Below w.heap.size w w') : SRow B w' v l := ownsRow_of_block h fun k hk => hb.block k (h.lt k hk).2
theorem SRow.shape {B : Nat} {w : World} {v : Value} {l : List ByteArray} (h : SRow B w v l) : ∃ a c, v = .slice a l.length c := by
  rcases h.2 with ⟨rfl, h0⟩ | ⟨g, cap, cur, rfl, _⟩
  · exact ⟨none, 0, by rw [h0]⟩
  · exact ⟨_, cap, rfl⟩
theorem SRow.mono {B B' : Nat} {w : World} {v : Value} {l : List ByteArray} (h : SRow B w v l) (hB : B' ≤ B) : SRow B' w v l :=
  ⟨h.1, h.2.imp id fun ⟨g, cap, cur, h1, h2, h3⟩ => ⟨g, cap, cur, h1, Nat.le_trans hB h2, h3⟩⟩
theorem SRow.at {B : Nat} {w : World} {a : Option Addr} {n c : Nat} {l : List ByteArray} (h : SRow B w (.slice a n c) l) {j : Nat} (hj : j < l.length) : ∃ g, a = some ⟨g, 0, none⟩ ∧ g < w.heap.size ∧ w.cell? ⟨g, j, none⟩ = some (.string l[j]) := by
  rcases h.2 with ⟨_, h0⟩ | ⟨g, cap, cur, hv, hB, hg, _⟩
  · omega
  · injection hv with hv _ _
    subst hv
    refine ⟨g, rfl, (Array.getElem?_eq_some_iff.1 hg).1, ?_⟩
    have := h.cells (g := g) rfl j (.string l[j]) (by simp [hj])
    rw [Addr.add_lit, Nat.zero_add] at this
    exact this

theorem SRow.nil (B : Nat) (w : World) : SRow B w (.slice none 0 0) [] := World.ownsRow_nil _ _ _ _
/-- A text is put behind a row that lies in memory made since. -/
theorem putStr {B : Nat} {w : World} (ty : TypeId) {v : Value} {l : List ByteArray} (h : SRow B w v l) (x : ByteArray) (T : TypeId) (hl : l.length ≤ 2199023255) (hB : B ≤ w.heap.size) :
    ∃ a c w', (Builtin.append_ #[52, 52] ty #[v, .slice (some ⟨w.heap.size, 0, none⟩) 1 1]).run Try.prog (w.alloc (.cells #[.string x] T)) = .ok (.slice a (l.length + 1) c) w' ∧ SRow B w' (.slice a (l.length + 1) c) (l ++ [x]) ∧ Below B w w' := by
  have hb := (Below.refl w.heap.size w).alloc (Nat.le_refl _) (.cells #[.string x] T)
  obtain ⟨i0, hi, q0, q1, q2⟩ := info_parts infoStr9
  have h0 := h.below hb
  have hBs := Nat.le_trans hB hb.size
  obtain ⟨v', w', hr, h2, h3, _⟩ := run_append_own_wide (P := Try.prog) _ B 52 ty 9 i0 _ 1 16 Try.underlying52 hi q0 q1 q2 rfl (by decide) v l.length (l.map Value.string) h0 ⟨w.heap.size, 0, none⟩ 1 1 [.string x] rfl (fun j u hu => by
    have hj : j < 1 := by
      obtain ⟨h1, _⟩ := List.getElem?_eq_some_iff.1 hu
      exact h1
    obtain rfl : j = 0 := by omega
    rw [Addr.add_lit, Nat.zero_add, Lib.cell_of_heap (heap_alloc_new w _)]
    simpa using hu) (fun u hu => by
      rw [List.mem_singleton] at hu
      subst hu; rfl) (by unfold maxLen; omega) (by omega) hBs
  have h4 : SRow B w' v' (l ++ [x]) := by
    rw [SRow, List.map_append, List.length_append]
    exact h2
  obtain ⟨a, c, rfl⟩ := h4.shape
  rw [List.length_append, List.length_singleton] at hr h4
  exact ⟨a, c, w', hr, h4, (hb.mono hB).trans ⟨h3.os, h3.tape, h3.output, h3.size, fun k hk => h3.block k (Nat.lt_of_lt_of_le hk hBs) (fun e => by have := (h0.lt k e.symm).1; omega)⟩⟩

/-- What the four askings of a value answer. -/
structure Asn (m : Value) (b1 b2 b3 b4 : Bool) : Prop where
  o : ∃ v, ∀ W, (Instr.typeAssert m 55 112 true).run Try.prog W = .ok (.tuple #[v, .bool b1]) W
  l : ∃ v, ∀ W, (Instr.typeAssert m 55 115 true).run Try.prog W = .ok (.tuple #[v, .bool b2]) W
  i : ∃ v, ∀ W, (Instr.typeAssert m 55 118 true).run Try.prog W = .ok (.tuple #[v, .bool b3]) W
  c : ∃ v, ∀ W, (Instr.typeAssert m 55 121 true).run Try.prog W = .ok (.tuple #[v, .bool b4]) W

theorem asn_nil : Asn .nilIface false false false false := ⟨⟨.nilIface, fun W => by kernel_rfl⟩, ⟨.nilIface, fun W => by kernel_rfl⟩, ⟨.nilIface, fun W => by kernel_rfl⟩, ⟨.nilIface, fun W => by kernel_rfl⟩⟩
theorem asn_bare (v : Value) : Asn (.iface 47 v) false false false false :=
  ⟨⟨.nilIface, run_typeAssert_lacksB Try.underlying112 (by kernel_rfl) (by kernel_rfl) v _⟩, ⟨.nilIface, run_typeAssert_lacksB Try.underlying115 (by kernel_rfl) (by kernel_rfl) v _⟩, ⟨.nilIface, run_typeAssert_lacksB Try.underlying118 (by kernel_rfl) (by kernel_rfl) v _⟩, ⟨.nilIface, run_typeAssert_lacksB Try.underlying121 (by kernel_rfl) (by kernel_rfl) v _⟩⟩
theorem asn_load (v : Value) : Asn (.iface 49 v) false true false false :=
  ⟨⟨.nilIface, run_typeAssert_lacksB Try.underlying112 (by kernel_rfl) (by kernel_rfl) v _⟩, ⟨_, run_typeAssert_hasB Try.underlying115 (by kernel_rfl) v _⟩, ⟨.nilIface, run_typeAssert_lacksB Try.underlying118 (by kernel_rfl) (by kernel_rfl) v _⟩, ⟨.nilIface, run_typeAssert_lacksB Try.underlying121 (by kernel_rfl) (by kernel_rfl) v _⟩⟩
theorem asn_both (v : Value) : Asn (.iface 50 v) false false true true :=
  ⟨⟨.nilIface, run_typeAssert_lacksB Try.underlying112 (by kernel_rfl) (by kernel_rfl) v _⟩, ⟨.nilIface, run_typeAssert_lacksB Try.underlying115 (by kernel_rfl) (by kernel_rfl) v _⟩, ⟨_, run_typeAssert_hasB Try.underlying118 (by kernel_rfl) v _⟩, ⟨_, run_typeAssert_hasB Try.underlying121 (by kernel_rfl) v _⟩⟩
theorem asn_plain (v : Value) : Asn (.iface 23 v) true false false false :=
  ⟨⟨_, run_typeAssert_hasB Try.underlying112 (by kernel_rfl) v _⟩, ⟨.nilIface, run_typeAssert_lacksB Try.underlying115 (by kernel_rfl) (by kernel_rfl) v _⟩, ⟨.nilIface, run_typeAssert_lacksB Try.underlying118 (by kernel_rfl) (by kernel_rfl) v _⟩, ⟨.nilIface, run_typeAssert_lacksB Try.underlying121 (by kernel_rfl) (by kernel_rfl) v _⟩⟩

def sOrd : ByteArray := ⟨#[111, 114, 100, 101, 114, 101, 100]⟩
def sLoad : ByteArray := ⟨#[108, 111, 97, 100, 101, 100]⟩
def sItems : ByteArray := ⟨#[105, 116, 101, 109, 115]⟩
def sCount : ByteArray := ⟨#[99, 111, 117, 110, 116, 101, 100]⟩

def AbP (w : World) (l : List ByteArray) (r : Ending) (w' : World) : Prop := ∃ v, r = .returned v ∧ SRow w.heap.size w' v l ∧ Below w.heap.size w w'

set_option maxHeartbeats 1600000 in
theorem abil_none (m : Value) (h : Asn m false false false false) (w : World) : Calls Try.prog 35 #[m] w (AbP w []) := by
  obtain ⟨⟨v1, h1⟩, ⟨v2, h2⟩, ⟨v3, h3⟩, ⟨v4, h4⟩⟩ := h
  go_enter Try.func35, Try.ntmps35
  go_wp2
  go_ret
  exact ⟨_, rfl, World.ownsRow_nil _ _ _ _, Below.refl _ _⟩

set_option maxHeartbeats 1600000 in
theorem abil_ord (m : Value) (h : Asn m true false false false) (w : World) : Calls Try.prog 35 #[m] w (AbP w [sOrd]) := by
  obtain ⟨⟨v1, h1⟩, ⟨v2, h2⟩, ⟨v3, h3⟩, ⟨v4, h4⟩⟩ := h
  obtain ⟨a, c, w', hr, ho, hb⟩ := putStr (B := w.heap.size) 52 (SRow.nil w.heap.size w) sOrd 9 (by decide) (Nat.le_refl _)
  have HO := Lib.hid ho; have HB := Lib.hid hb
  clear ho hb
  unfold sOrd at hr
  go_enter Try.func35, Try.ntmps35
  go_wp2_with (at_builtin; refine Lib.wpList_append_run _ rfl _ _ 52 52 rfl _ _ rfl rfl _ _ hr ?_)
  go_ret
  exact ⟨_, rfl, HO.out, HB.out⟩

set_option maxHeartbeats 1600000 in
theorem abil_load (m : Value) (h : Asn m false true false false) (w : World) : Calls Try.prog 35 #[m] w (AbP w [sLoad]) := by
  obtain ⟨⟨v1, h1⟩, ⟨v2, h2⟩, ⟨v3, h3⟩, ⟨v4, h4⟩⟩ := h
  obtain ⟨a, c, w', hr, ho, hb⟩ := putStr (B := w.heap.size) 52 (SRow.nil w.heap.size w) sLoad 9 (by decide) (Nat.le_refl _)
  have HO := Lib.hid ho; have HB := Lib.hid hb
  clear ho hb
  unfold sLoad at hr
  go_enter Try.func35, Try.ntmps35
  go_wp2_with (at_builtin; refine Lib.wpList_append_run _ rfl _ _ 52 52 rfl _ _ rfl rfl _ _ hr ?_)
  go_ret
  exact ⟨_, rfl, HO.out, HB.out⟩

set_option maxHeartbeats 1600000 in
theorem abil_both (m : Value) (h : Asn m false false true true) (w : World) : Calls Try.prog 35 #[m] w (AbP w [sItems, sCount]) := by
  obtain ⟨⟨v1, h1⟩, ⟨v2, h2⟩, ⟨v3, h3⟩, ⟨v4, h4⟩⟩ := h
  obtain ⟨a, c, w1, hr, ho, hb⟩ := putStr (B := w.heap.size) 52 (SRow.nil w.heap.size w) sItems 9 (by decide) (Nat.le_refl _)
  obtain ⟨a2, c2, w2, hr2, ho2, hb2⟩ := putStr (B := w.heap.size) 52 ho sCount 9 (by decide) hb.size
  have HO := Lib.hid ho2; have HB := Lib.hid (hb.trans hb2)
  clear ho hb ho2 hb2
  unfold sItems at hr
  unfold sCount at hr2
  simp only [List.length_nil, List.nil_append, List.length_singleton, Nat.reduceAdd] at hr hr2
  go_enter Try.func35, Try.ntmps35
  go_wp2_with (at_builtin; first | refine Lib.wpList_append_run _ rfl _ _ 52 52 rfl _ _ rfl rfl _ _ hr ?_ | refine Lib.wpList_append_run _ rfl _ _ 52 52 rfl _ _ rfl rfl _ _ hr2 ?_)
  go_ret
  exact ⟨_, rfl, HO.out, HB.out⟩

set_option maxHeartbeats 400000 in
theorem abils_any (m : Value) (l : List ByteArray) (w : World) (h : Calls Try.prog 35 #[m] w (AbP w l)) : Calls Try.prog 18 #[m] w (AbP w l) := by
  have HA := Lib.hid h
  clear h
  go_enter Try.func18, Try.ntmps18
  go_wp2_with (go_at_call 35; refine (HA.out).mono ?_; rintro e w' ⟨v, rfl, ho, hb⟩; have HO := Lib.hid ho; have HB := Lib.hid hb; clear ho hb)
  go_ret
  exact ⟨_, rfl, HO.out, HB.out⟩
end Go.Proofs.Ytnghhhmhinailaa.Dm
