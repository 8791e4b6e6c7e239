/- The contracts of eachByte and Bytes: for every datum that may be; other memory stands. -/
import Derived.Test.YtnnmigglcpkomaaEC
import Derived.Test.YtnnmigglcpkomaaDC
import Derived.OneCell
set_option maxRecDepth 100000
namespace Go.Proofs.Ytnnmigglcpkomaa.Dm
open Go Go.RowKit

theorem box_heap {w w1 : World} {b k : Nat} {cs : Array Value} (h : Lib.OthersKept 5 (some b) w w1) (hk : w.heap[k]? = some (.cells cs 33 (0, 0))) (hne : k ≠ b) : w1.heap[k]? = some (.cells cs 33 (0, 0)) :=
  h k _ hk (by simpa using hne) (by intro c fz e; simp at e)
theorem Fed.al {I : List UInt8 → World → Prop} {b B : Nat} {l : List UInt8} {w w' : World} (hB : B ≤ w.heap.size) (o : Obj) (h : Fed I b B l (w.alloc o) w') : Fed I b B l w w' :=
  ⟨h.1, ((Below.refl _ _).alloc hB o).trans h.2.1, ((Lib.OthersKept.refl _ _ w).alloc o).trans h.2.2⟩

set_option maxHeartbeats 800000 in
theorem eachItem_any {F : Nat} {p : Value} {b B : Nat} {I : List UInt8 → World → Prop} (P : Hid (Putter F p b B I)) (l : List UInt8) (k n : Int) (s : ByteArray) (a : Option Addr) (ll lc : Nat) (w : World) (hI : Hid (I l w)) (hk : k = 1 ∨ k = 2) (hM : l.length ≤ 20000) (hs : s.size ≤ 10000) (hB : B ≤ w.heap.size) :
    Calls Try.prog 66 #[.agg #[.int .i64 k, .int .i64 n, .string s, .slice a ll lc], .func (.func F) #[] #[p]] w fun e w' => e = .returned (.tuple #[]) ∧ Fed I b B (l ++ itemB k n s) w w' := by
  have hen := P.out.enters
  have hlow := P.out.low _ _ hI.out
  have hB1 : B ≤ w.heap.size + 1 := by omega
  rcases hk with rfl | rfl
  · go_enter Try.func66, Try.ntmps66
    go_wp2_with fail
    refine (P.out.put l _ 1 1 rfl (P.out.alloc _ _ _ hI.out) (by omega) (by simp; omega)).mono ?_
    rintro e w1 ⟨rfl, hf⟩
    have hbx := box_heap hf.2.2 (new_heap _ _) (by omega)
    obtain ⟨c0, c1, c2, c3⟩ := box_heap_cells hbx
    have HF := Lib.hid (show Fed I b B _ _ _ from hf); clear hf hbx
    go_wp2_with fail
    refine (eachOfInt_any P (l ++ [1]) n _ (Lib.hid HF.out.1) (by simp; omega) (by have := HF.out.2.1.size; simp at this; omega)).mono ?_
    rintro e w2 ⟨rfl, hf2⟩
    have HF2 := Lib.hid hf2; clear hf2
    go_wp2
    go_end0
    refine ⟨rfl, ?_⟩
    have := Fed.al hB _ (HF.out.trans HF2.out)
    simpa [itemB] using this
  · go_enter Try.func66, Try.ntmps66
    go_wp2_with fail
    refine (P.out.put l _ 2 2 rfl (P.out.alloc _ _ _ hI.out) (by omega) (by simp; omega)).mono ?_
    rintro e w1 ⟨rfl, hf⟩
    have hbx := box_heap hf.2.2 (new_heap _ _) (by omega)
    obtain ⟨c0, c1, c2, c3⟩ := box_heap_cells hbx
    have HF := Lib.hid (show Fed I b B _ _ _ from hf); clear hf hbx
    go_wp2_with fail
    refine (eachOfText_any P (l ++ [2]) s _ (Lib.hid HF.out.1) (by simp; omega) hs (by have := HF.out.2.1.size; simp at this; omega)).mono ?_
    rintro e w2 ⟨rfl, hf2⟩
    have HF2 := Lib.hid hf2; clear hf2
    go_wp2
    go_end0
    refine ⟨rfl, ?_⟩
    have := Fed.al hB _ (HF.out.trans HF2.out)
    simpa [itemB] using this

set_option maxHeartbeats 1600000 in
theorem eachByte_any {F : Nat} {p : Value} {b B : Nat} {I : List UInt8 → World → Prop} (P : Hid (Putter F p b B I)) (l : List UInt8) (k n : Int) (s : ByteArray) (a : Option Addr) (xs : List It) (lc : Nat) (w : World) (hS : SlB B w a xs) (hI : Hid (I l w)) (hok : dOk k n s xs = true) (hM : l.length ≤ 100) (hB : B ≤ w.heap.size) :
    Calls Try.prog 66 #[.agg #[.int .i64 k, .int .i64 n, .string s, .slice a xs.length lc], .func (.func F) #[] #[p]] w fun e w' => e = .returned (.tuple #[]) ∧ Fed I b B (l ++ datB k n s xs) w w' := by
  by_cases hk : k = 3
  · subst hk
    rw [show dOk 3 n s xs = listOk n s xs from by simp [dOk]] at hok
    obtain ⟨_, _, hlen, hall⟩ := listOk_parts hok
    have HA := Lib.hid hall; clear hall hok
    have HS := Lib.hid hS; clear hS
    have hen := P.out.enters
    have hlow := P.out.low _ _ hI.out
    have hB1 : B ≤ w.heap.size + 1 := by omega
    obtain ⟨ll, hll⟩ : ∃ ll, ll = xs.length := ⟨_, rfl⟩
    rw [← hll] at hlen ⊢
    have HL := Lib.hid hll; clear hll
    go_enter Try.func66, Try.ntmps66
    go_wp2_with fail
    refine (P.out.put l _ 3 3 rfl (P.out.alloc _ _ _ hI.out) (by omega) (by simp; omega)).mono ?_
    rintro e w1 ⟨rfl, hf⟩
    have hbx := box_heap hf.2.2 (new_heap _ _) (by omega)
    obtain ⟨c0, c1, c2, c3⟩ := box_heap_cells hbx
    have HBX := Lib.hid hbx
    have HF := Lib.hid (show Fed I b B _ _ _ from hf); clear hf hbx
    go_wp2_with fail
    refine (P.out.put _ _ _ (byt xs.length) (by rw [byt_nat, ← HL.out]; omega) HF.out.1 (by simp; omega) (by have := HF.out.2.1.size; simp at this; omega)).mono ?_
    rintro e w2 ⟨rfl, hf⟩
    have hbx := box_heap hf.2.2 HBX.out (by omega)
    obtain ⟨d0, d1, d2, d3⟩ := box_heap_cells hbx
    have HF2 := Lib.hid (show Fed I b B _ _ _ from hf); clear hf hbx
    have H0 := Lib.hid (Fed.al hB _ (HF.out.trans HF2.out))
    go_wp2
    go_loopw [37] (fun i wr => ∃ j : Nat, j ≤ ll ∧ i = .int .i64 j ∧ Fed I b B (l ++ [3] ++ [byt xs.length] ++ itemsB (xs.take j)) w wr) (fun i _ => ll - (intOf i).toNat)
    case atStart => exact ⟨0, Nat.zero_le _, rfl, by simpa [itemsB] using H0.out⟩
    case round =>
      obtain ⟨j, hj, rfl, hb⟩ := hrel
      have HB := Lib.hid hb; clear hb
      by_cases hlt : j < ll
      · have hlt' : j < xs.length := by rw [← HL.out]; exact hlt
        obtain ⟨b', off, rfl, hbw, hc⟩ := (HS.out.below HB.out.2.1).at hlt'
        obtain ⟨e0, e1, e2, e3⟩ := hc j hlt'
        clear hc
        have hokj : (xs[j]'hlt').ok = true := HA.out _ (List.getElem_mem _)
        obtain ⟨hkj, hsj⟩ := item_kind hokj
        have HK := Lib.hid hkj; clear hokj hkj
        have hlj : (itemsB (xs.take j)).length ≤ 73 * j := by
          have := itemsB_length (xs.take j) (fun x hx => HA.out x (List.mem_of_mem_take hx))
          have := List.length_take_le j xs
          omega
        have hwr := HB.out.2.1.size
        go_wp2_with fail
        refine (eachItem_any P _ _ _ _ _ _ _ _ (Lib.hid (P.out.alloc _ _ _ HB.out.1)) HK.out (by simp; omega) (by omega) (by simp; omega)).mono ?_
        rintro e w3 ⟨rfl, hf⟩
        have HF3 := Lib.hid (Fed.al (by omega) _ hf); clear hf
        go_wp2
        go_roundw
        case rel =>
          refine ⟨j + 1, by omega, by go_num, ?_⟩
          rw [List.take_succ_eq_append_getElem hlt', itemsB_snoc, ← List.append_assoc]
          exact HB.out.trans HF3.out
        case measure => simp [intOf]; omega
      · go_wp2
        go_end0
        refine ⟨rfl, ?_⟩
        have := HB.out
        rw [List.take_of_length_le (by have := HL.out; omega)] at this
        simpa [datB] using this
  · have h1 : itemOk k n s xs.length = true := by simpa [dOk, hk] using hok
    obtain ⟨h2, h3⟩ := item_kind (x := ⟨k, n, s, a, xs.length, lc⟩) h1
    have := eachItem_any P l k n s a xs.length lc w hI h2 (by omega) (by show s.size ≤ 10000; have : s.size ≤ 32 := h3; omega) hB
    simpa [datB, hk] using this

/-- The closure of Bytes is a putter: it writes into the builder at block b. -/
theorem putter_builder (b : Nat) : Putter 67 (.pointer (some ⟨b, 0, none⟩)) b b (fun l w => Lib.IsBuilderF 134 5 b b (Lib.byteCells l) w) where
  enters := fun args w => enters_of Try.func67 (by kernel_rfl) rfl args w
  put := by
    intro l w c u hc hI hl hB
    subst hc
    go_enter Try.func67, Try.ntmps67
    go_wp2_with fail
    refine (writeByte_k b b _ _ _ hI (by rw [Lib.byteCells_length]; omega) hB).mono ?_
    rintro e w1 ⟨rfl, h1, hb1, hk1⟩
    go_wp2
    go_end0
    refine ⟨rfl, ?_, hb1, hk1⟩
    rw [Lib.byteCells_append]
    exact .inr h1
  alloc := fun _ _ _ h => h.alloc _
  low := by
    intro l w h
    rcases h with ⟨_, v, hb, _⟩ | ⟨_, v, hb, _⟩ <;> exact (Array.getElem?_eq_some_iff.1 hb).1

set_option maxHeartbeats 800000 in
theorem bytes_ok (k n : Int) (s : ByteArray) (a : Option Addr) (xs : List It) (lc : Nat) (w : World) (hS : Sl w a xs) (h : dOk k n s xs = true) :
    Calls Try.prog 52 #[.agg #[.int .i64 k, .int .i64 n, .string s, .slice a xs.length lc]] w fun e w' => e = .returned (.tuple #[.string ⟨(datB k n s xs).toArray⟩, .int .i64 0]) ∧ Below w.heap.size w w' := by
  have HS := Lib.hid hS; clear hS
  have HF := Lib.hid h; clear h
  obtain ⟨l, hl⟩ : ∃ l, l = datB k n s xs := ⟨_, rfl⟩
  rw [← hl]
  have HL := Lib.hid hl; clear hl
  go_enter Try.func52, Try.ntmps52
  go_wp2_with fail
  refine (check_ok _ _ _ _ _ _ _ (HS.out.below ((Below.refl _ _).alloc (Nat.le_refl _) _) (Nat.le_refl _)) HF.out).mono ?_
  rintro e w1 ⟨rfl, hb1⟩
  obtain ⟨c0, c1, c2, c3⟩ := box_cells (by simpa using hb1)
  have hz1 : w.heap.size < w1.heap.size := by have := hb1.size; simp at this; omega
  go_wp2_with fail
  refine (eachByte_any (Lib.hid (putter_builder w1.heap.size)) [] _ _ _ _ _ _ _ ?_ (Lib.hid (Lib.IsBuilderF.of (Lib.fresh_isBuilder 134 5 w1))) HF.out (by simp) (by simp)).mono ?_
  · exact ((HS.out.below ((Below.refl _ _).alloc (Nat.le_refl _) _) (Nat.le_refl _)).below hb1 (Nat.le_refl _)).slB.below ((Below.refl _ _).alloc (Nat.le_refl _) _)
  rintro e w2 ⟨rfl, hf⟩
  have hz2 := hf.2.1.size
  simp at hz2
  have HF2 := Lib.hid hf; clear hf
  go_wp2_with fail
  refine (Try.Builder_String_any_k w1.heap.size w1.heap.size _ _ HF2.out.1 (by omega)).mono ?_
  rintro e w3 ⟨rfl, h3, hb3, hk3⟩
  go_wp2
  go_ret2
  refine ⟨by rw [HL.out]; rfl, ?_⟩
  exact below_then (below_al _ hb1) (Nat.le_refl _) (((Below.refl _ _).alloc (Nat.le_refl _) _).trans (HF2.out.2.1.trans hb3))

set_option maxHeartbeats 400000 in
theorem bytes_no (k n : Int) (s : ByteArray) (a : Option Addr) (xs : List It) (lc : Nat) (w : World) (hS : Sl w a xs) (h : dOk k n s xs = false) :
    Calls Try.prog 52 #[.agg #[.int .i64 k, .int .i64 n, .string s, .slice a xs.length lc]] w fun e w' => e = .returned (.tuple #[.string ⟨#[]⟩, .int .i64 11]) ∧ Below w.heap.size w w' := by
  have HS := Lib.hid hS; clear hS
  have HF := Lib.hid h; clear h
  go_enter Try.func52, Try.ntmps52
  go_wp2_with fail
  refine (check_no _ _ _ _ _ _ _ (HS.out.below ((Below.refl _ _).alloc (Nat.le_refl _) _) (Nat.le_refl _)) HF.out).mono ?_
  rintro e w1 ⟨rfl, hb1⟩
  go_wp2
  go_ret2
  exact ⟨rfl, below_al _ hb1⟩
end Go.Proofs.Ytnnmigglcpkomaa.Dm
