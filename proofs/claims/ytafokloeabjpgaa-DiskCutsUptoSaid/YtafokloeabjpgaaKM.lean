/- The document's Write. -/
import Derived.Test.YtafokloeabjpgaaKL
set_option maxRecDepth 100000
namespace Go.Proofs.Ytafokloeabjpgaa
open Go.RowKit

set_option maxHeartbeats 4000000 in
theorem rwrite_no (A : Nat → Option Addr) (Ln C : Nat → Nat) (N : Nat) (f at' : Int) (s : ByteArray) (w : World) (hs : s.size ≤ 9223372036854775807) (hn : ¬ (0 ≤ f ∧ f < 4 ∧ 0 ≤ at' ∧ at' + s.size ≤ 4194304)) :
    Calls Try.prog 17 #[rv A Ln C N, .int .i64 f, .int .i64 at', .string s] w fun e w' => e = .returned (.tuple #[rv A Ln C N, .int .i64 1]) ∧ Below w.heap.size w w' := by
  by_cases h0 : f < 0
  · clear hn
    go_enter Try.func17, Try.ntmps17
    go_wp2
    exact bodyPost_ret (v := .tuple #[rv A Ln C N, .int .i64 1]) (by simp [results, Try.results17, go_sem]) rfl ⟨rfl, ((Below.refl _ w).alloc (Nat.le_refl _) _).alloc (by simp) _⟩
  by_cases h1 : (4 : Int) ≤ f
  · clear hn
    go_enter Try.func17, Try.ntmps17
    go_wp2
    exact bodyPost_ret (v := .tuple #[rv A Ln C N, .int .i64 1]) (by simp [results, Try.results17, go_sem]) rfl ⟨rfl, ((Below.refl _ w).alloc (Nat.le_refl _) _).alloc (by simp) _⟩
  by_cases h2 : at' < 0
  · clear hn
    go_enter Try.func17, Try.ntmps17
    go_wp2
    exact bodyPost_ret (v := .tuple #[rv A Ln C N, .int .i64 1]) (by simp [results, Try.results17, go_sem]) rfl ⟨rfl, ((Below.refl _ w).alloc (Nat.le_refl _) _).alloc (by simp) _⟩
  by_cases h3 : (4194304 : Int) < at'
  · clear hn
    go_enter Try.func17, Try.ntmps17
    go_wp2
    exact bodyPost_ret (v := .tuple #[rv A Ln C N, .int .i64 1]) (by simp [results, Try.results17, go_sem]) rfl ⟨rfl, ((Below.refl _ w).alloc (Nat.le_refl _) _).alloc (by simp) _⟩
  · have h4 : (4194304 : Int) - at' < s.size := by omega
    clear hn
    go_enter Try.func17, Try.ntmps17
    go_wp2
    exact bodyPost_ret (v := .tuple #[rv A Ln C N, .int .i64 1]) (by simp [results, Try.results17, go_sem]) rfl ⟨rfl, ((Below.refl _ w).alloc (Nat.le_refl _) _).alloc (by simp) _⟩

def slLen : Value → Nat
  | .slice _ n _ => n
  | _ => 0

theorem ownsRow_below {w W : World} {B : Nat} {v : Value} {n : Nat} {xs : List Value} (h : w.ownsRow B 5 1 v n xs) (hb : ∀ k, B ≤ k → k < w.heap.size → W.heap[k]? = w.heap[k]?) : W.ownsRow B 5 1 v n xs :=
  ownsRow_of_block h (fun k hk => hb k (h.lt k hk).1 (h.lt k hk).2)

theorem splice_nil (L : List UInt8) (p : Nat) : splice L p [] = L := by simp [splice]
theorem splice_step (L cs : List UInt8) (p i : Nat) (hi : i < cs.length) (h : p + cs.length ≤ L.length) : (splice L p (cs.take i)).set (p + i) cs[i] = splice L p (cs.take (i + 1)) := by
  apply List.ext_getElem?
  intro k
  rw [List.getElem?_set, splice_get _ _ _ (by rw [List.length_take]; omega), splice_get _ _ _ (by rw [List.length_take]; omega)]
  simp only [List.length_take]
  rw [length_splice _ _ _ (by rw [List.length_take]; omega)]
  by_cases hk : p + i = k
  · subst hk
    rw [if_pos rfl, if_pos (by omega), if_pos (by omega), List.getElem?_take, if_pos (by omega), show p + i - p = i by omega, List.getElem?_eq_getElem hi]
  · rw [if_neg hk]
    by_cases h1 : p ≤ k ∧ k < p + i
    · rw [if_pos (by omega), if_pos (by omega), List.getElem?_take, List.getElem?_take, if_pos (by omega), if_pos (by omega)]
    · rw [if_neg (by omega), if_neg (by omega)]

theorem row_set {w : World} {B g n c p : Nat} {Y : List UInt8} (h : w.ownsRow B 5 1 (.slice (some ⟨g, 0, none⟩) n c) n (Lib.byteCells Y)) (b : UInt8) (hp : p < n) :
    (w.setCell ⟨g, p, none⟩ (.int .u8 (b.toNat : Int))).ownsRow B 5 1 (.slice (some ⟨g, 0, none⟩) n c) n (Lib.byteCells (Y.set p b)) ∧ (∃ x, w.cell? ⟨g, p, none⟩ = some x) ∧ w.frozen? ⟨g, p, none⟩ = false := by
  have hl := h.1
  rcases h.2 with ⟨h0, _⟩ | ⟨g', cap, cur, hv, hBg, hg, hnc, hcm, hcs, ht⟩
  · cases h0
  · injection hv with e1 e2 e3
    injection e1 with e1
    injection e1 with e1
    subst e1 e3
    refine ⟨⟨by simpa [Lib.byteCells] using hl, .inr ⟨g, c, cur.setIfInBounds p (.int .u8 (b.toNat : Int)), rfl, hBg, ?_, hnc, hcm, by simpa using hcs, ?_⟩⟩, ?_, Lib.frozen_of_heap hg p⟩
    · exact _root_.Go.heap_setCell_same w g p cur 5 _ hg
    · rw [Array.toList_setIfInBounds, List.take_set, ht]
      simp [Lib.byteCells, List.map_set]
    · rw [Lib.cell_of_heap hg]
      exact ⟨cur[p]'(by omega), Array.getElem?_eq_getElem (by omega)⟩

theorem row_cell {W : World} {B n : Nat} {x : Value} {xs : List Value} (h : W.ownsRow B 5 1 x n xs) (b i : Nat) (v : Value) (hb : b < B) : (W.setCell ⟨b, i, none⟩ v).ownsRow B 5 1 x n xs :=
  ownsRow_of_block h (fun k hk => Below.heap_setCell _ _ _ _ (by have := (h.lt k hk).1; show k ≠ b; omega))

set_option maxHeartbeats 8000000 in
theorem rwrite_ok (S : Nat → Prop) (A : Nat → Option Addr) (Ln C : Nat → Nat) (F : Nat → List UInt8) (N : Nat) (j at' : Nat) (s : ByteArray) (w : World) (hB : RefF S w A Ln C F) (hS : ∀ k, S k → k < w.heap.size) (hN : N ≤ 4611686018427387904) (hmax : (F j).length ≤ 4194304) (hj : j < 4) (hat : at' + s.size ≤ 4194304) :
    Calls Try.prog 17 #[rv A Ln C N, .int .i64 j, .int .i64 at', .string s] w fun e w' => ∃ v', e = .returned (.tuple #[v', .int .i64 0]) ∧ RefAt S w' v' (upd F j (putL (F j) at' s.data.toList)) (N + 1) ∧ Below w.heap.size w w' := by
  have hlen := hB.len hj
  have hBj := (hB j hj).1
  have hb2 : Below w.heap.size w ((w.alloc (.cells #[Value.slice (A 0) (Ln 0) (C 0), .slice (A 1) (Ln 1) (C 1), .slice (A 2) (Ln 2) (C 2), .slice (A 3) (Ln 3) (C 3), .int .i64 N] 28)).alloc (.cells #[.slice none 0 0, .slice none 0 0, .slice none 0 0, .slice none 0 0, .int .i64 0] 28)) := ((Below.refl _ w).alloc (Nat.le_refl _) _).alloc (by simp) _
  obtain ⟨v', w3, hr, ho, hg⟩ := append_copy ((w.alloc (.cells #[Value.slice (A 0) (Ln 0) (C 0), .slice (A 1) (Ln 1) (C 1), .slice (A 2) (Ln 2) (C 2), .slice (A 3) (Ln 3) (C 3), .int .i64 N] 28)).alloc (.cells #[.slice none 0 0, .slice none 0 0, .slice none 0 0, .slice none 0 0, .int .i64 0] 28)) (.slice (A j) (Ln j) (C j)) (F j) (ownsRow_of_block hBj (fun k hk => hb2.block k (World.ownsRow.lt hBj k hk).2)) (by omega) 25
  obtain ⟨a', c', rfl, hown⟩ := ownsRow_slice ho
  have hb3 : Below w.heap.size w w3 := hb2.trans ⟨hg.os, hg.tape, hg.output, hg.size, fun k hk => hg.block k (by simp; omega) (by simp)⟩
  have hsz3 : w.heap.size + 1 + 1 ≤ w3.heap.size := by have := hg.size; simp at this; omega
  have k0 : w3.heap[w.heap.size]? = some (.cells #[Value.slice (A 0) (Ln 0) (C 0), .slice (A 1) (Ln 1) (C 1), .slice (A 2) (Ln 2) (C 2), .slice (A 3) (Ln 3) (C 3), .int .i64 N] 28) := by
    rw [hg.block w.heap.size (by simp; omega) (by simp), Below.heap_alloc _ _ _ (by simp)]
    exact heap_alloc_new w _
  have k1 : w3.heap[w.heap.size + 1]? = some (.cells #[.slice none 0 0, .slice none 0 0, .slice none 0 0, .slice none 0 0, .int .i64 0] 28) := by
    rw [hg.block (w.heap.size + 1) (by simp) (by simp)]
    have := heap_alloc_new (w.alloc (.cells #[Value.slice (A 0) (Ln 0) (C 0), .slice (A 1) (Ln 1) (C 1), .slice (A 2) (Ln 2) (C 2), .slice (A 3) (Ln 3) (C 3), .int .i64 N] 28)) (.cells #[.slice none 0 0, .slice none 0 0, .slice none 0 0, .slice none 0 0, .int .i64 0] 28)
    simpa using this
  have hbase : ((w.alloc (.cells #[Value.slice (A 0) (Ln 0) (C 0), .slice (A 1) (Ln 1) (C 1), .slice (A 2) (Ln 2) (C 2), .slice (A 3) (Ln 3) (C 3), .int .i64 N] 28)).alloc (.cells #[.slice none 0 0, .slice none 0 0, .slice none 0 0, .slice none 0 0, .int .i64 0] 28)).heap.size = w.heap.size + 1 + 1 := by simp
  rw [hbase] at ho
  obtain ⟨l, hl⟩ : ∃ l, l = F j := ⟨_, rfl⟩
  rw [← hl] at ho hmax hlen hr
  obtain ⟨L0, hL0⟩ : ∃ L0, L0 = l.length := ⟨_, rfl⟩
  rw [← hL0] at ho hmax hlen hr
  have hfile : ∀ (W : World) (a n c) , Below w.heap.size w W → W.ownsRow (w.heap.size + 1 + 1) 5 1 (.slice a n c) n (Lib.byteCells (putL l at' s.data.toList)) → RefAt S W (rv (upd A j a) (upd Ln j n) (upd C j c) (N + 1)) (upd F j (putL l at' s.data.toList)) (N + 1) := fun W a n c hbW hBW =>
    ⟨_, _, _, rfl, hB.put hbW j (ownsRow_of_eq hBW) (fun k hk hs => by have := (hBW.lt k hk).1; have h2 := hS k hs; omega)⟩
  rw [← hl]
  have HF := Lib.hid hfile; clear hfile
  have HO := Lib.hid ho; clear ho
  have HB3 := Lib.hid hb3; clear hb3
  have hat2 := rv_at2 A Ln C N j hj
  have hj4' : (j : Int) < 4 := by omega
  have hLn : Ln j = L0 := by omega
  rw [hLn] at hr
  have HK0 := Lib.hid k0; clear k0
  have HK1 := Lib.hid k1; clear k1
  have HL0 := Lib.hid hL0; clear hL0
  clear hg hb2 hB hBj hlen hown hbase hl
  go_enter Try.func17, Try.ntmps17
  go_wp2_with (at_builtin; refine Lib.wpList_append_run _ rfl _ _ 25 25 rfl _ _ rfl rfl _ _ hr ?_)
  obtain ⟨i0, hi, hz0, hz1, hz2⟩ := info_parts infoByte
  go_loopw [10] (fun vb wr => ∃ (m : Nat) (a : Option Addr) (n c : Nat), vb = .slice a n c ∧ (m = 0 ∨ n ≤ at' + s.size) ∧ Hid (n = L0 + m ∧ wr.ownsRow (w.heap.size + 1 + 1) 5 1 (.slice a n c) n (Lib.byteCells (l ++ List.replicate m 0)) ∧ Below (w.heap.size + 1 + 1) w3 wr)) (fun vb _ => at' + s.size - slLen vb)
  case atStart => exact ⟨0, a', L0, c', rfl, .inl rfl, Lib.hid ⟨rfl, by simpa using HO.out, Below.refl _ _⟩⟩
  case round =>
    obtain ⟨m, a, n, c, rfl, hm, HI⟩ := hrel
    by_cases hlt : (n : Int) < at' + s.size
    · have hbw : w.heap.size + 1 + 1 ≤ wr.heap.size := Nat.le_trans hsz3 HI.out.2.2.size
      go_wp2_with (at_builtin; refine wpList_append_own _ rfl _ _ 25 rfl (w.heap.size + 1 + 1) 5 i0 (.int .u8 0) 1 1 Try.underlying25 hi hz0 hz1 hz2 rfl (by decide) _ _ _ rfl (HI.out.2.1.alloc _) ⟨wr.heap.size, 0, none⟩ 1 1 [.int .u8 0] rfl rfl ?c1 ?c2 ?c3 ?c4 ?c5 ?_)
      case c1 =>
        intro j' u hu
        have h0 : j' = 0 := by have := (List.getElem?_eq_some_iff.1 hu).1; simp at this; exact this
        subst h0
        simp at hu; subst hu; simp [Addr.add]
      case c2 => intro u hu; simp at hu; subst hu; rfl
      case c3 => unfold maxLen; omega
      case c4 => omega
      case c5 => simp; omega
      intro v2 w2 hown2 hgrow _
      obtain ⟨a2, c2, rfl⟩ : ∃ a2 c2, v2 = .slice a2 (n + 1) c2 := by
        rcases hown2.2 with ⟨_, h0⟩ | ⟨g, cap, cur, hv, _⟩
        · omega
        · exact ⟨_, cap, hv⟩
      have hfin : Hid (n + 1 = L0 + (m + 1) ∧ w2.ownsRow (w.heap.size + 1 + 1) 5 1 (.slice a2 (n + 1) c2) (n + 1) (Lib.byteCells (l ++ List.replicate (m + 1) 0)) ∧ Below (w.heap.size + 1 + 1) w3 w2) := by
        refine Lib.hid ⟨by have := HI.out.1; omega, ?_, ?_⟩
        · rw [List.replicate_succ', ← List.append_assoc, Lib.byteCells_append]
          exact hown2
        · exact (HI.out.2.2.alloc (by have := HI.out.2.2.size; omega) _).grown hgrow (by simp; omega) (fun k hk => (HI.out.2.1.lt k hk).1)
      clear hown2 hgrow
      go_wp2
      go_roundw
      case rel => exact ⟨m + 1, a2, n + 1, c2, rfl, .inr (by omega), hfin⟩
      case measure => simp [slLen]; omega
    · have hmn : m = at' + s.size - L0 := by have := HI.out.1; omega
      obtain ⟨L, hL⟩ : ∃ L, L = l ++ List.replicate m 0 := ⟨_, rfl⟩
      have hLl : L.length = n := by rw [hL, List.length_append, List.length_replicate, ← HL0.out]; exact HI.out.1.symm
      have hput : putL l at' s.data.toList = splice L at' s.data.toList := by
        unfold putL
        rw [hL, hmn, HL0.out]
        rfl
      have h0 : Hid (wr.ownsRow (w.heap.size + 1 + 1) 5 1 (.slice a n c) n (Lib.byteCells (splice L at' (s.data.toList.take 0))) ∧ Below (w.heap.size + 1 + 1) w3 wr) := by
        refine Lib.hid ⟨?_, HI.out.2.2⟩
        rw [List.take_zero, splice_nil, hL]
        exact HI.out.2.1
      have HL := Lib.hid hL; clear hL
      have HLL := Lib.hid hLl; clear hLl
      have HP := Lib.hid hput; clear hput
      have hsn : at' + s.size ≤ n := by omega
      clear hm hmn
      go_wp2
      go_loopw [11] (fun vi wr2 => ∃ i : Nat, i ≤ s.size ∧ vi = .int .i64 i ∧ Hid (wr2.ownsRow (w.heap.size + 1 + 1) 5 1 (.slice a n c) n (Lib.byteCells (splice L at' (s.data.toList.take i))) ∧ Below (w.heap.size + 1 + 1) w3 wr2)) (fun vi _ => s.size - (intOf vi).toNat)
      case atStart => exact ⟨0, Nat.zero_le _, rfl, h0⟩
      case round =>
        obtain ⟨i, hi', rfl, HJ⟩ := hrel
        by_cases hls : i < s.size
        · obtain ⟨g, rfl, hgB⟩ : ∃ g, a = some ⟨g, 0, none⟩ ∧ w.heap.size + 1 + 1 ≤ g := by
            rcases HJ.out.1.2 with ⟨hv, h0⟩ | ⟨g, cap, cur, hv, hB, _⟩
            · omega
            · injection hv with e1; exact ⟨g, e1, hB⟩
          have hst := row_set HJ.out.1 (s.data.toList[i]'hls) (p := at' + i) (by omega)
          rw [splice_step L s.data.toList at' i hls (by rw [HLL.out]; exact hsn)] at hst
          obtain ⟨hrow, ⟨x0, hx0⟩, hf0⟩ := hst
          have hrel2 : Hid ((wr.setCell ⟨g, at' + i, none⟩ (.int .u8 ((s.data.toList[i]'hls).toNat : Int))).ownsRow (w.heap.size + 1 + 1) 5 1 (.slice (some ⟨g, 0, none⟩) n c) n (Lib.byteCells (splice L at' (s.data.toList.take (i + 1)))) ∧ Below (w.heap.size + 1 + 1) w3 (wr.setCell ⟨g, at' + i, none⟩ (.int .u8 ((s.data.toList[i]'hls).toNat : Int)))) :=
            Lib.hid ⟨hrow, below_cell HJ.out.2 _ _ _ hgB⟩
          clear hrow
          go_wp2
          go_roundw
          case rel => exact ⟨i + 1, by omega, by go_num, hrel2⟩
          case measure => simp [intOf]; omega
        · have his : i = s.size := by omega
          subst his
          have k0 : wr.heap[w.heap.size]? = _ := (HJ.out.2.block w.heap.size (by omega)).trans HK0.out
          have k1 : wr.heap[w.heap.size + 1]? = _ := (HJ.out.2.block (w.heap.size + 1) (by omega)).trans HK1.out
          have c00 : wr.cell? ⟨w.heap.size, 0, none⟩ = some (.slice (A 0) (Ln 0) (C 0)) := by rw [Lib.cell_of_heap k0]; rfl
          have c01 : wr.cell? ⟨w.heap.size, 1, none⟩ = some (.slice (A 1) (Ln 1) (C 1)) := by rw [Lib.cell_of_heap k0]; rfl
          have c02 : wr.cell? ⟨w.heap.size, 2, none⟩ = some (.slice (A 2) (Ln 2) (C 2)) := by rw [Lib.cell_of_heap k0]; rfl
          have c03 : wr.cell? ⟨w.heap.size, 3, none⟩ = some (.slice (A 3) (Ln 3) (C 3)) := by rw [Lib.cell_of_heap k0]; rfl
          have c04 : wr.cell? ⟨w.heap.size, 4, none⟩ = some (.int .i64 N) := by rw [Lib.cell_of_heap k0]; rfl
          have f00 : ∀ i, wr.frozen? ⟨w.heap.size, i, none⟩ = false := fun i => Lib.frozen_of_heap k0 i
          have c10 : wr.cell? ⟨w.heap.size + 1, 0, none⟩ = some (.slice none 0 0) := by rw [Lib.cell_of_heap k1]; rfl
          have c11 : wr.cell? ⟨w.heap.size + 1, 1, none⟩ = some (.slice none 0 0) := by rw [Lib.cell_of_heap k1]; rfl
          have c12 : wr.cell? ⟨w.heap.size + 1, 2, none⟩ = some (.slice none 0 0) := by rw [Lib.cell_of_heap k1]; rfl
          have c13 : wr.cell? ⟨w.heap.size + 1, 3, none⟩ = some (.slice none 0 0) := by rw [Lib.cell_of_heap k1]; rfl
          have c14 : wr.cell? ⟨w.heap.size + 1, 4, none⟩ = some (.int .i64 0) := by rw [Lib.cell_of_heap k1]; rfl
          have f10 : ∀ i, wr.frozen? ⟨w.heap.size + 1, i, none⟩ = false := fun i => Lib.frozen_of_heap k1 i
          have hrw : wr.ownsRow (w.heap.size + 1 + 1) 5 1 (.slice a n c) n (Lib.byteCells (putL l at' s.data.toList)) := by
            have := HJ.out.1
            rw [List.take_of_length_le (show s.data.toList.length ≤ s.size from Nat.le_refl _)] at this
            rw [HP.out]
            exact this
          have HRW := Lib.hid hrw; clear hrw
          have HBW := Lib.hid (HB3.out.trans (HJ.out.2.mono (by omega)))
          clear k0 k1
          have hj4 : j = 0 ∨ j = 1 ∨ j = 2 ∨ j = 3 := by omega
          clear hat2 hr
          rcases hj4 with rfl | rfl | rfl | rfl
          · go_wp2
            refine bodyPost_ret (v := .tuple #[.agg #[.slice a n c, .slice (A 1) (Ln 1) (C 1), .slice (A 2) (Ln 2) (C 2), .slice (A 3) (Ln 3) (C 3), .int .i64 (N + 1)], .int .i64 0]) (by simp [results, Try.results17, go_sem, c10, c11, c12, c13, c14]) rfl ⟨_, rfl, HF.out _ a n c ?_ ?_, ?_⟩
            · repeat refine below_cell ?_ _ _ _ (by omega)
              exact HBW.out
            · repeat refine row_cell ?_ _ _ _ (by omega)
              exact HRW.out
            · repeat refine below_cell ?_ _ _ _ (by omega)
              exact HBW.out
          · go_wp2
            refine bodyPost_ret (v := .tuple #[.agg #[.slice (A 0) (Ln 0) (C 0), .slice a n c, .slice (A 2) (Ln 2) (C 2), .slice (A 3) (Ln 3) (C 3), .int .i64 (N + 1)], .int .i64 0]) (by simp [results, Try.results17, go_sem, c10, c11, c12, c13, c14]) rfl ⟨_, rfl, HF.out _ a n c ?_ ?_, ?_⟩
            · repeat refine below_cell ?_ _ _ _ (by omega)
              exact HBW.out
            · repeat refine row_cell ?_ _ _ _ (by omega)
              exact HRW.out
            · repeat refine below_cell ?_ _ _ _ (by omega)
              exact HBW.out
          · go_wp2
            refine bodyPost_ret (v := .tuple #[.agg #[.slice (A 0) (Ln 0) (C 0), .slice (A 1) (Ln 1) (C 1), .slice a n c, .slice (A 3) (Ln 3) (C 3), .int .i64 (N + 1)], .int .i64 0]) (by simp [results, Try.results17, go_sem, c10, c11, c12, c13, c14]) rfl ⟨_, rfl, HF.out _ a n c ?_ ?_, ?_⟩
            · repeat refine below_cell ?_ _ _ _ (by omega)
              exact HBW.out
            · repeat refine row_cell ?_ _ _ _ (by omega)
              exact HRW.out
            · repeat refine below_cell ?_ _ _ _ (by omega)
              exact HBW.out
          · go_wp2
            refine bodyPost_ret (v := .tuple #[.agg #[.slice (A 0) (Ln 0) (C 0), .slice (A 1) (Ln 1) (C 1), .slice (A 2) (Ln 2) (C 2), .slice a n c, .int .i64 (N + 1)], .int .i64 0]) (by simp [results, Try.results17, go_sem, c10, c11, c12, c13, c14]) rfl ⟨_, rfl, HF.out _ a n c ?_ ?_, ?_⟩
            · repeat refine below_cell ?_ _ _ _ (by omega)
              exact HBW.out
            · repeat refine row_cell ?_ _ _ _ (by omega)
              exact HRW.out
            · repeat refine below_cell ?_ _ _ _ (by omega)
              exact HBW.out
end Go.Proofs.Ytafokloeabjpgaa
