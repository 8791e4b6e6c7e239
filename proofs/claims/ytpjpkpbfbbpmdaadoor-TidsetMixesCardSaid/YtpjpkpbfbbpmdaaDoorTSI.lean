/- Numbers in a row of one's own; a page's addresses put behind such a row. -/
import Derived.Test.YtpjpkpbfbbpmdaaDoorTSH
import Derived.IntWalk
import Derived.Deep.DeepAppendWide
set_option maxRecDepth 100000
namespace Go.Proofs.YtpjpkpbfbbpmdaaDoor.Ts
open Go Go.RowKit

theorem infoInt : (Tryd.prog.info? 3).map (fun i => (i.zero, i.size, i.bytes)) = some (some (.int .i64 0), 1, 8) := by kernel_rfl
def nums (l : List Nat) : List Value := l.map fun n : Nat => Value.int .i64 (n : Int)
/-- Numbers that lie in a row of their own, from block B on. -/
def NRow (B : Nat) (w : World) (v : Value) (l : List Nat) : Prop := w.ownsRow B 3 1 v l.length (nums l)
theorem NRow.below {B : Nat} {w w' : World} {v : Value} {l : List Nat} (h : NRow B w v l) (hb : Below w.heap.size w w') : NRow B w' v l := ownsRow_of_block h fun k hk => hb.block k (h.lt k hk).2
theorem NRow.shape {B : Nat} {w : World} {v : Value} {l : List Nat} (h : NRow B w v l) : ∃ a c, v = .slice a l.length c := by
  rcases h.2 with ⟨rfl, h0⟩ | ⟨g, cap, cur, rfl, _⟩
  · exact ⟨none, 0, by rw [h0]⟩
  · exact ⟨_, cap, rfl⟩
theorem NRow.mono {B B' : Nat} {w : World} {v : Value} {l : List Nat} (h : NRow B w v l) (hB : B' ≤ B) : NRow B' w v l :=
  ⟨h.1, h.2.imp id fun ⟨g, cap, cur, h1, h2, h3⟩ => ⟨g, cap, cur, h1, Nat.le_trans hB h2, h3⟩⟩
/-- Numbers that can be read: in memory from block B on. -/
def NumsV (B : Nat) (w : World) (a : Option Addr) (l : List Nat) : Prop :=
  l = [] ∨ ∃ b off, a = some ⟨b, off, none⟩ ∧ B ≤ b ∧ b < w.heap.size ∧ ∀ j (h : j < l.length), w.cell? ⟨b, off + j, none⟩ = some (.int .i64 (l[j] : Int))
theorem NRow.nums {B : Nat} {w : World} {a : Option Addr} {n c : Nat} {l : List Nat} (h : NRow B w (.slice a n c) l) : NumsV B w a l := by
  rcases h.2 with ⟨_, h0⟩ | ⟨g, cap, cur, hv, hB, hg, _⟩
  · exact .inl (List.eq_nil_of_length_eq_zero h0)
  · injection hv with hv _ _
    subst hv
    refine .inr ⟨g, 0, rfl, hB, (Array.getElem?_eq_some_iff.1 hg).1, fun j hj => ?_⟩
    have := h.cells (g := g) rfl j (.int .i64 (l[j] : Int)) (by simp [Ts.nums, hj])
    rw [Addr.add_lit] at this
    exact this
theorem NumsV.below {B : Nat} {w w' : World} {a : Option Addr} {l : List Nat} (h : NumsV B w a l) (hb : Below w.heap.size w w') : NumsV B w' a l :=
  h.imp id fun ⟨b, off, h1, h2, h3, h4⟩ => ⟨b, off, h1, h2, Nat.lt_of_lt_of_le h3 hb.size, fun j hj => (hb.cell (p := ⟨b, off + j, none⟩) h3).trans (h4 j hj)⟩
theorem NumsV.kept {S : Nat → Prop} {B : Nat} {w w' : World} {a : Option Addr} {l : List Nat} (h : NumsV B w a l) (hk : Kept S w w') (hS : ∀ k, S k → k < B) : NumsV B w' a l :=
  h.imp id fun ⟨b, off, h1, h2, h3, h4⟩ => ⟨b, off, h1, h2, Nat.lt_of_lt_of_le h3 hk.size, fun j hj => (World.cell?_of_block (hk.block b h3 (fun e => by have := hS b e; omega))).trans (h4 j hj)⟩
theorem NumsV.at {B : Nat} {w : World} {a : Option Addr} {l : List Nat} (h : NumsV B w a l) {j : Nat} (hj : j < l.length) : ∃ b off, a = some ⟨b, off, none⟩ ∧ b < w.heap.size ∧ w.cell? ⟨b, off + j, none⟩ = some (.int .i64 (l[j] : Int)) := by
  rcases h with rfl | ⟨b, off, h1, _, h2, h3⟩
  · simp at hj
  · exact ⟨b, off, h1, h2, h3 j hj⟩
theorem NumsV.mono {B B' : Nat} {w : World} {a : Option Addr} {l : List Nat} (h : NumsV B w a l) (hB : B' ≤ B) : NumsV B' w a l :=
  h.imp id fun ⟨b, off, h1, h2, h3, h4⟩ => ⟨b, off, h1, Nat.le_trans hB h2, h3, h4⟩

/-- A number is put behind a row that lies in memory made since. -/
theorem putN {B : Nat} {w : World} (ty : TypeId) {v : Value} {l : List Nat} (h : NRow B w v l) (x : Nat) (T : TypeId) (hl : l.length ≤ 2199023255552) (hB : B ≤ w.heap.size) :
    ∃ a c w', (Builtin.append_ #[22, 22] ty #[v, .slice (some ⟨w.heap.size, 0, none⟩) 1 1]).run Tryd.prog (w.alloc (.cells #[.int .i64 (x : Int)] T)) = .ok (.slice a (l.length + 1) c) w' ∧ NRow B w' (.slice a (l.length + 1) c) (l ++ [x]) ∧ Below B w w' := by
  have hb := (Below.refl w.heap.size w).alloc (Nat.le_refl _) (.cells #[.int .i64 (x : Int)] T)
  obtain ⟨i0, hi, q0, q1, q2⟩ := info_parts infoInt
  have h0 := h.below hb
  have hBs := Nat.le_trans hB hb.size
  obtain ⟨v', w', hr, h2, h3, _⟩ := run_append_own_wide (P := Tryd.prog) _ B 22 ty 3 i0 _ 1 8 Tryd.underlying22 hi q0 q1 q2 rfl (by decide) v l.length (nums l) h0 ⟨w.heap.size, 0, none⟩ 1 1 [.int .i64 (x : Int)] rfl (fun j u hu => by
    have hj : j < 1 := by
      obtain ⟨h1, _⟩ := List.getElem?_eq_some_iff.1 hu
      exact h1
    obtain rfl : j = 0 := by omega
    rw [Addr.add_lit, Nat.zero_add, Lib.cell_of_heap (heap_alloc_new w _)]
    simpa using hu) (fun u hu => by
      rw [List.mem_singleton] at hu
      subst hu; rfl) (by unfold maxLen; omega) (by omega) hBs
  have h4 : NRow B w' v' (l ++ [x]) := by
    rw [NRow, nums, List.map_append, List.length_append]
    exact h2
  obtain ⟨a, c, rfl⟩ := h4.shape
  rw [List.length_append, List.length_singleton] at hr h4
  exact ⟨a, c, w', hr, h4, (hb.mono hB).trans ⟨h3.os, h3.tape, h3.output, h3.size, fun k hk => h3.block k (Nat.lt_of_lt_of_le hk hBs) (fun e => by have := (h0.lt k e.symm).1; omega)⟩⟩

theorem bits_minus (y : Nat) (h0 : y ≠ 0) (hy : y < 18446744073709551616) : bits BinOp.and IntKind.u64 (y : Int) ((y : Int) - 1) = ((y &&& (y - 1) : Nat) : Int) := by
  have e : (y : Int) - 1 = ((y - 1 : Nat) : Int) := by omega
  rw [e, bits_and_u64_nat _ _ hy (by omega)]

set_option maxHeartbeats 1600000 in
theorem ptids_any {B : Nat} {w : World} {v : Value} {l : List Nat} (h : NRow B w v l) (x pg : Nat) (hx : x < 18446744073709551616) (hpg : pg < 262144) (hl : l.length ≤ 1099511627776) (hB : B ≤ w.heap.size) (hT : Tab w) (hB1 : 1 ≤ B) :
    Calls Tryd.prog 42 #[.int .u64 x, v, .int .i64 pg] w fun e w' => ∃ v', e = .returned v' ∧ NRow B w' v' (l ++ tidsOf pg x) ∧ Below B w w' := by
  have HT := Lib.hid hT
  have HX : Hid (bitsL x = [] ++ bitsL x) := Lib.hid rfl
  have HW : Hid (NRow B w v (l ++ List.map (fun i => 64 * pg + i) [])) := Lib.hid (by simpa using h)
  obtain ⟨va, vc, hv⟩ := h.shape
  obtain ⟨ln, hln⟩ : ∃ ln, ln = l.length := ⟨_, rfl⟩
  rw [← hln] at hv
  subst hv
  have HLN := Lib.hid hln
  clear h hT
  rw [← hln] at hl
  clear hln
  go_enter Tryd.func42, Tryd.ntmps42
  go_wp2
  go_loopw [0, 1] (fun v0 v1 wr => ∃ (y m c : Nat) (a : Option Addr) (done : List Nat), v0 = .int .u64 y ∧ v1 = .slice a m c ∧ y < 18446744073709551616 ∧ m ≤ ln + 64 ∧ Hid (m = (l ++ done.map (fun i => 64 * pg + i)).length) ∧ Hid (bitsL x = done ++ bitsL y) ∧ Hid (NRow B wr (.slice a m c) (l ++ done.map (fun i => 64 * pg + i))) ∧ Hid (Below B w wr)) (fun v0 _ _ => (intOf v0).toNat)
  case atStart => exact ⟨x, ln, vc, va, [], rfl, rfl, hx, by omega, Lib.hid (by simpa using HLN.out), HX, HW, Lib.hid (Below.refl _ _)⟩
  case round =>
    obtain ⟨y, m, c, a, done, rfl, rfl, hy, hm, HM, HD, HN, HB⟩ := hrel
    clear HX HW
    by_cases h0 : y = 0
    · subst h0
      have HE : Hid (NRow B wr (.slice a m c) (l ++ tidsOf pg x)) := Lib.hid (by
        have := HN.out
        have e := HD.out
        rw [bitsL_zero, List.append_nil] at e
        rw [tidsOf, e]
        exact this)
      clear HN HD HM
      go_wp2
      go_ret
      exact ⟨_, rfl, HE.out, HB.out⟩
    · have hT1 : Tab wr := HT.out.below HB.out hB1
      have HTZ := Lib.hid (tz64_any y h0 hy wr hT1)
      obtain ⟨k1, k2, k3⟩ := ctz_bits y h0 hy
      have hlow := bitsL_low k1 k2 k3
      have hmin := bits_minus y h0 hy
      have hne : ((y : Int) != 0) = true := by simp; omega
      obtain ⟨t, ht⟩ : ∃ t, t = Lib.ctz 64 y := ⟨_, rfl⟩
      rw [← ht] at HTZ k1 k2 k3 hlow
      have hlt : y &&& (y - 1) < y := by
        have h1 := low_le y
        refine Nat.lt_of_le_of_ne h1 (fun e => ?_)
        have h2 := low_split k2 k3 t
        rw [e, k2] at h2
        simp at h2
      have hdl : done.length + 1 ≤ 64 := by
        have h1 : (bitsL x).length ≤ 64 := by unfold bitsL; exact Nat.le_trans (List.length_filter_le _ _) (by simp)
        rw [HD.out, hlow] at h1
        simp at h1; omega
      have hml : m + 1 ≤ ln + 64 := by
        rw [HM.out, List.length_append, List.length_map, ← HLN.out]; omega
      obtain ⟨na, nc, w2, hr2, ho2, hb2⟩ := putN 22 HN.out (64 * pg + t) 3 (by rw [← HM.out]; omega) (Nat.le_trans hB HB.out.size)
      rw [← HM.out] at hr2 ho2
      have HD2 : Hid (bitsL x = (done ++ [t]) ++ bitsL (y &&& (y - 1))) := Lib.hid (by rw [HD.out, hlow]; simp)
      have HM2 : Hid (m + 1 = (l ++ (done ++ [t]).map (fun i => 64 * pg + i)).length) := Lib.hid (by rw [HM.out]; simp; omega)
      have HO2 : Hid (NRow B w2 (.slice na (m + 1) nc) (l ++ (done ++ [t]).map (fun i => 64 * pg + i))) := Lib.hid (by
        rw [List.map_append, ← List.append_assoc]
        exact ho2)
      have HB2 : Hid (Below B w w2) := Lib.hid (HB.out.trans hb2)
      have hcast : (((64 * pg + t : Nat)) : Int) = (pg : Int) * 64 + (t : Int) := by omega
      rw [hcast] at hr2
      obtain ⟨z, hz⟩ : ∃ z, z = y &&& (y - 1) := ⟨_, rfl⟩
      rw [← hz] at hmin HD2 hlt
      clear ho2 hb2 hlow ht k2 k3 hdl hcast hz hT1 HD HN HM HB
      go_wp2_with fail
      refine HTZ.out.mono ?_
      rintro e w1 ⟨rfl, rfl⟩
      go_wp2_with (at_builtin; refine Lib.wpList_append_run _ rfl _ _ 22 22 rfl _ _ rfl rfl _ _ hr2 ?_)
      go_roundw
      case rel => exact ⟨z, m + 1, nc, na, done ++ [t], rfl, rfl, by omega, hml, HM2, HD2, HO2, HB2⟩
      case measure => simp [intOf]; omega
end Go.Proofs.YtpjpkpbfbbpmdaaDoor.Ts
