/- The contracts of the raw writes put and trim, done on files. -/
import Derived.Test.YtnmeobbbcccgjaaKC
import Derived.Deep.RegionHeld3
import Derived.Deep.RegionWith
set_option maxRecDepth 100000
namespace Go.Proofs.Ytnmeobbbcccgjaa
open Go.RowKit

theorem Bytes.of_kept {w w' : World} {v : Value} {l : List UInt8} (h : Bytes w v l) (hb : ∀ k, k < w.heap.size → w'.heap[k]? = w.heap[k]?) : Bytes w' v l :=
  ownsRow_of_block h (fun k hk => hb k (World.ownsRow.lt h k hk).2)
theorem Bytes.alloc {w : World} {v : Value} {l : List UInt8} (h : Bytes w v l) (o : Obj) : Bytes (w.alloc o) v l := World.ownsRow.alloc h o

theorem Bytes.shape {w : World} {v : Value} {l : List UInt8} (h : Bytes w v l) : ∃ ao n cap, v = .slice ao n cap ∧ n = l.length ∧ n ≤ cap ∧ (∀ a, ao = some a → a.off = 0 ∧ a.spot = none ∧ v.ownBlock = some a.block) ∧ (ao = none → n = 0) := by
  rcases h.2 with ⟨rfl, h0⟩ | ⟨g, cap, cur, rfl, _, _, hc, _⟩
  · exact ⟨none, 0, 0, rfl, h0.symm, by omega, by intro a ha; simp at ha, fun _ => rfl⟩
  · exact ⟨some ⟨g, 0, none⟩, _, cap, rfl, rfl, hc, by intro a ha; simp at ha; subst ha; exact ⟨rfl, rfl, rfl⟩, by intro ha; simp at ha⟩

/-- A string is laid over a row of bytes from a place on, as a step of a region. -/
theorem step_copy_bytes {ops : Array Oper} {o : Oper} {a : Act} {w : World} {K : Act → World → Prop} {Q : Exit → Act → World → Prop} {E : Prop} (hgd : o.guard = none) (d s : Operand)
    (ho : o.op = .call { callee := .builtin .copy, args := #[d, s], argTypes := #[44, 9] }) (v : Value) (l : List UInt8) (hB : Bytes w v l) (at' : Nat) (str : ByteArray) (hfit : at' + str.size ≤ l.length)
    (dp : Option Addr) (dl dc : Nat) (hd : a.eval d = .slice dp dl dc) (hdl : 0 < str.size → dl = l.length - at') (hdp : 0 < str.size → ∃ g, v.ownBlock = some g ∧ dp = some ⟨g, at', none⟩) (hs : a.eval s = .string str)
    (h : ∀ w', Bytes w' v (splice l at' str.data.toList) → w.grownBy w' v.ownBlock → K (a.put o.dst (goInt str.size)) w') :
    if Region.wanted o (yielded ops a.tmps) = true then Oper.wp Try.prog o a w K Q else E := by
  have hw : Region.wanted o (yielded ops a.tmps) = true := by simp [Region.wanted, hgd]
  rw [if_pos hw]
  obtain ⟨i, hi, hz, hsz, hby⟩ := info_parts infoByte
  have hinfo : (Try.prog.info? 5).map (·.size) = some 1 := by rw [hi]; simp [hsz]
  have hstr : str.data.toList.length = str.size := rfl
  by_cases h0 : str.size = 0
  · have hrun := Lib.run_copy_empty_string (P := Try.prog) w 44 9 o.type 5 dp dl dc str Try.underlying44 (by rw [hinfo]; rfl) h0
    have hnil : str.data.toList = [] := List.eq_nil_of_length_eq_zero (by rw [hstr, h0])
    unfold Oper.wp
    simp [execOp, ho, resolve, invoke, builtin, hd, hs, hrun, Result.andThen]
    have := h w (by rw [hnil]; simpa [splice] using hB) ⟨rfl, rfl, rfl, Nat.le_refl _, fun _ _ _ => rfl⟩
    rw [h0] at this
    exact this
  · obtain ⟨g, hg, rfl⟩ := hdp (by omega)
    have hdl' := hdl (by omega)
    rcases hB.2 with ⟨rfl, _⟩ | ⟨g', cap, cur, rfl, _, hgb, hnc, hcm, hcs, ht⟩
    · simp [Value.ownBlock] at hg
    · obtain rfl : g' = g := by simpa [Value.ownBlock] using hg
      have hrun := Lib.run_copy_row_string (P := Try.prog) w 44 9 o.type 5 g' at' dl dc str cur 5 Try.underlying44 hinfo hgb (by omega) (by omega)
      unfold Oper.wp
      simp [execOp, ho, resolve, invoke, builtin, hd, hs, hrun, Result.andThen]
      have hsl : (splice l at' str.data.toList).length = l.length := length_splice _ _ _ (by rw [hstr]; exact hfit)
      have := h (w.setRow g' (cur.toList.take at' ++ Lib.byteCells str.data.toList ++ cur.toList.drop (at' + str.size)).toArray) ?_ ⟨rfl, rfl, rfl, by simp, fun k _ hk => setRow_other w g' k _ (fun e => hk (by simp [Value.ownBlock, e]))⟩
      · rw [Oper.upon_value]
        simpa using this
      · show World.ownsRow _ 0 5 1 _ (splice l at' str.data.toList).length _
        rw [hsl]
        refine ⟨by rw [Lib.byteCells_length, hsl]; omega, .inr ⟨g', cap, _, rfl, Nat.zero_le _, setRow_heap w g' cur _ 5 _ hgb, hnc, hcm, ?_, ?_⟩⟩
        · simp only [List.size_toArray, List.length_append, List.length_take, List.length_drop, Array.length_toList, Lib.byteCells_length, hstr]
          omega
        · unfold splice
          simp only [Nat.mul_one, Lib.byteCells_append, List.append_assoc] at ht ⊢
          rw [← byteCells_take]
          have hd2 : Lib.byteCells (List.drop (at' + str.data.toList.length) l) = List.drop (at' + str.size) (Lib.byteCells l) := by simp [Lib.byteCells, List.map_drop]
          rw [hd2, ← ht, List.take_append, List.take_append, List.take_take, List.take_take]
          simp only [List.length_take, Array.length_toList, Lib.byteCells_length, hstr]
          have e1 : min l.length at' = at' := by omega
          have e2 : min at' l.length = at' := by omega
          have e3 : min at' cur.size = at' := by omega
          rw [e1, e2, e3]
          congr 1
          rw [List.take_of_length_le (by rw [Lib.byteCells_length, hstr]; omega)]
          congr 1
          rw [List.take_drop]
          congr 2
          omega
theorem grown_old {w W w2 : World} {o : Obj} {row : Option Nat} (hg : W.grownBy w2 row) (hW : W.heap = (w.alloc o).heap) {k : Nat} (hk : k < w.heap.size) (hne : some k ≠ row) : w2.heap[k]? = w.heap[k]? := by
  rw [hg.block k (by rw [hW]; simp; omega) hne, hW]
  exact Below.heap_alloc w o k hk
theorem grown_new {w W w2 : World} {o : Obj} {row : Option Nat} (hg : W.grownBy w2 row) (hW : W.heap = (w.alloc o).heap) (hne : some w.heap.size ≠ row) : w2.heap[w.heap.size]? = some o := by
  rw [hg.block w.heap.size (by rw [hW]; simp) hne, hW]
  exact heap_alloc_new w o

set_option maxHeartbeats 1000000 in
theorem putDo (d f at' : Nat) (s : ByteArray) (v : Value) (l : List UInt8) (w : World) (hf : f < 4) (hat : at' + s.size ≤ 4194304) (hl : l.length ≤ 4194304)
    (hc : w.cell? ⟨d, 1 + f, none⟩ = some v) (hfr : w.frozen? ⟨d, 1 + f, none⟩ = false) (hdw : d < w.heap.size) (hown : Bytes w v l) (hne : v.ownBlock ≠ some d) :
    Calls Try.prog 76 #[.agg #[.int .i64 f, .int .i64 at', .string s], .pointer (some ⟨d, 1, none⟩)] w fun e w' => e = .returned (.tuple #[]) ∧
      ∃ v' w1, Bytes w1 v' (putL l at' s.data.toList) ∧ Grew w w1 v v' ∧ w' = w1.setCell ⟨d, 1 + f, none⟩ v' := by
  have hstr : s.data.toList.length = s.size := rfl
  obtain ⟨ao, n, cap, rfl, hn, hlc, hao, hnone⟩ := hown.shape
  have HO := Lib.hid hown; clear hown
  have HN := Lib.hid hne; clear hne
  have HL := Lib.hid hn; clear hn
  by_cases hgt : (n : Int) < at' + s.size
  · obtain ⟨k, hk⟩ : ∃ k : Nat, at' + s.size - n = k := ⟨_, rfl⟩
    have hk0 : 0 < k := by omega
    have hki : ((at' : Int) + s.size - n) = (k : Int) := by omega
    obtain ⟨v', w1, hr, hB1, hG1⟩ := append_zeros ((w.alloc (.cells #[.int .i64 f, .int .i64 at', .string s] 82)).drew) (.slice ao n cap) l (HO.out.alloc _) k hk0 (by omega) 44
    obtain ⟨ao', n', cap', rfl, hn', hlc', hao', hnone'⟩ := hB1.shape
    rw [List.length_append, List.length_replicate, ← HL.out] at hn'
    have hn2 : n' = at' + s.size := by omega
    rw [← hki] at hr
    have hlt : ∀ k, (Value.slice ao n cap).ownBlock = some k → k < w.heap.size := fun k hk => (World.ownsRow.lt HO.out k hk).2
    have hbd1 : w1.heap[d]? = w.heap[d]? := grown_old (w := w) (o := .cells #[.int .i64 f, .int .i64 at', .string s] 82) hG1.1 rfl hdw (fun e => HN.out e.symm)
    have hbn1 := grown_new (w := w) (o := .cells #[.int .i64 f, .int .i64 at', .string s] 82) hG1.1 rfl (fun e => absurd (hlt _ e.symm) (Nat.lt_irrefl _))
    have hne' : ∀ j, (Value.slice ao' n' cap').ownBlock = some j → (Value.slice ao n cap).ownBlock = some j ∨ w.heap.size < j := fun j hj => (hG1.2 j hj).imp id (fun h => by simp at h; omega)
    have hq1 : w1.cell? ⟨w.heap.size, 1, none⟩ = some (.int .i64 at') := by rw [Lib.cell_of_heap hbn1]; rfl
    have hq2 : w1.cell? ⟨w.heap.size, 2, none⟩ = some (.string s) := by rw [Lib.cell_of_heap hbn1]; rfl
    have hle : at' ≤ n' := by omega
    have hfit : at' + s.size ≤ (l ++ List.replicate k 0).length := by have := HL.out; simp; omega
    have hdl : 0 < s.size → n' - at' = (l ++ List.replicate k 0).length - at' := by intro _; have := HL.out; simp; omega
    obtain ⟨ax, hax⟩ : ∃ ax, (if cap' = at' then ao' else Option.map (fun x => x.add at') ao') = ax := ⟨_, rfl⟩
    have hdp : 0 < s.size → ∃ g, (Value.slice ao' n' cap').ownBlock = some g ∧ ax = some ⟨g, at', none⟩ := by
      intro h0
      rw [← hax]
      cases ao' with
      | none => have := hnone' rfl; omega
      | some a =>
        obtain ⟨h1, h2, h3⟩ := hao' a rfl
        refine ⟨_, h3, ?_⟩
        rw [if_neg (by omega)]
        cases a with
        | mk b o sp => simp at h1 h2; subst h1 h2; simp [Addr.add, eq_comm]
    have HP := Lib.hid hdp; clear hdp
    have HDL := Lib.hid hdl; clear hdl
    have HN' := Lib.hid hne'; clear hne'
    have HB1 := Lib.hid hB1; clear hB1
    have HG1 := Lib.hid hG1; clear hG1
    have HBD := Lib.hid hbd1; clear hbd1
    have HBN := Lib.hid hbn1; clear hbn1
    have HK := Lib.hid hk; clear hk hki
    have HLT := Lib.hid hlt; clear hlt
    clear hao' hnone' hao hnone hn' hn2
    go_enter Try.func76, Try.ntmps76
    go_wp2
    go_region
    go_wp2_with (at_builtin; refine Lib.wpList_append_run _ rfl _ _ 44 3 rfl _ _ rfl rfl _ _ hr ?_)
    go_region_law (refine step_copy_bytes rfl _ _ rfl (.slice ao' n' cap') (l ++ List.replicate k 0) HB1.out at' s hfit _ _ _ rfl HDL.out HP.out rfl ?_; intro w2 hB2 hg2)
    all_goals
      have hsz : w.heap.size < w1.heap.size := (Array.getElem?_eq_some_iff.1 HBN.out).1
      have hbd : w2.heap[d]? = w.heap[d]? := (hg2.block d (show d < w1.heap.size by omega) (fun e => (HN'.out d e.symm).elim (fun h => HN.out h) (by omega))).trans HBD.out
      have hbn : w2.heap[w.heap.size]? = some (.cells #[.int .i64 f, .int .i64 at', .string s] 82) := (hg2.block w.heap.size (show w.heap.size < w1.heap.size from hsz) (fun e => (HN'.out _ e.symm).elim (fun h => absurd (HLT.out _ h) (Nat.lt_irrefl _)) (by omega))).trans HBN.out
      have hc2 : w2.cell? ⟨d, 1 + f, none⟩ = some (.slice ao n cap) := by rw [World.cell?_of_block (w := w) hbd]; exact hc
      have hf2 : w2.frozen? ⟨d, 1 + f, none⟩ = false := by rw [World.frozen?_of_block (w := w) hbd]; exact hfr
      have hq0 : w2.cell? ⟨w.heap.size, 0, none⟩ = some (.int .i64 f) := by rw [Lib.cell_of_heap hbn]; rfl
      have hG : Grew w w2.drew (.slice ao n cap) (.slice ao' n' cap') := by
        refine ⟨⟨hg2.os.trans HG1.out.1.os, hg2.tape.trans HG1.out.1.tape, hg2.output.trans HG1.out.1.output, ?_, ?_⟩, ?_⟩
        · have := hg2.size
          have h3 : w1.heap.size ≤ w2.heap.size := this
          show w.heap.size ≤ w2.heap.size
          omega
        · intro j hj hne
          refine (hg2.block j (show j < w1.heap.size by omega) (fun e => ?_)).trans (grown_old (w := w) (o := .cells #[.int .i64 f, .int .i64 at', .string s] 82) HG1.out.1 rfl hj hne)
          rcases HN'.out j e.symm with h | h
          · exact hne h.symm
          · omega
        · intro j hj
          rcases HN'.out j hj with h | h
          · exact .inl h
          · exact .inr (by omega)
      have HG := Lib.hid hG; clear hG
      have HB2 := Lib.hid hB2; clear hB2
      clear hg2
      have hf4 : (f : Int) < 4 := by omega
      go_wp2
      go_region
      go_wp2
      go_end0
      refine ⟨rfl, _, w2.drew, ?_, HG.out, rfl⟩
      have hq : putL l at' s.data.toList = splice (l ++ List.replicate k 0) at' s.data.toList := by
        unfold putL
        rw [hstr, ← HL.out, HK.out]
      rw [hq]
      exact HB2.out
  · have hle : at' ≤ n := by omega
    have hfit : at' + s.size ≤ l.length := by have := HL.out; omega
    have hdl : 0 < s.size → n - at' = l.length - at' := by intro _; rw [← HL.out]
    obtain ⟨ax, hax⟩ : ∃ ax, (if cap = at' then ao else Option.map (fun x => x.add at') ao) = ax := ⟨_, rfl⟩
    have hdp : 0 < s.size → ∃ g, (Value.slice ao n cap).ownBlock = some g ∧ ax = some ⟨g, at', none⟩ := by
      intro h0
      rw [← hax]
      cases ao with
      | none => have := hnone rfl; omega
      | some a =>
        obtain ⟨h1, h2, h3⟩ := hao a rfl
        refine ⟨_, h3, ?_⟩
        rw [if_neg (by omega)]
        cases a with
        | mk b o sp => simp at h1 h2; subst h1 h2; simp [Addr.add, eq_comm]
    have HP := Lib.hid hdp; clear hdp
    have HDL := Lib.hid hdl; clear hdl
    clear hao hnone
    go_enter Try.func76, Try.ntmps76
    go_wp2
    go_region
    go_wp2
    go_region_law (refine step_copy_bytes rfl _ _ rfl (.slice ao n cap) l (HO.out.alloc _) at' s hfit _ _ _ rfl HDL.out HP.out rfl ?_; intro w2 hB2 hg2)
    all_goals
      have hlt : ∀ k, (Value.slice ao n cap).ownBlock = some k → k < w.heap.size := fun k hk => (World.ownsRow.lt HO.out k hk).2
      have hbd : w2.heap[d]? = w.heap[d]? := grown_old (w := w) (o := .cells #[.int .i64 f, .int .i64 at', .string s] 82) hg2 rfl hdw (fun e => HN.out e.symm)
      have hbn := grown_new (w := w) (o := .cells #[.int .i64 f, .int .i64 at', .string s] 82) hg2 rfl (fun e => absurd (hlt _ e.symm) (Nat.lt_irrefl _))
      have hc2 : w2.cell? ⟨d, 1 + f, none⟩ = some (.slice ao n cap) := by rw [World.cell?_of_block (w := w) hbd]; exact hc
      have hf2 : w2.frozen? ⟨d, 1 + f, none⟩ = false := by rw [World.frozen?_of_block (w := w) hbd]; exact hfr
      have hq0 : w2.cell? ⟨w.heap.size, 0, none⟩ = some (.int .i64 f) := by rw [Lib.cell_of_heap hbn]; rfl
      have hG : Grew w w2.drew (.slice ao n cap) (.slice ao n cap) := ⟨⟨hg2.os, hg2.tape, hg2.output, by have := hg2.size; simp at this; show w.heap.size ≤ w2.heap.size; omega, fun k hk hne => grown_old (w := w) (o := .cells #[.int .i64 f, .int .i64 at', .string s] 82) hg2 rfl hk hne⟩, fun k hk => .inl hk⟩
      have HG := Lib.hid hG; clear hG
      have HB2 := Lib.hid hB2; clear hB2
      clear hg2
      have hf4 : (f : Int) < 4 := by omega
      go_wp2
      go_region
      go_wp2
      go_end0
      refine ⟨rfl, _, w2.drew, ?_, HG.out, rfl⟩
      have hq : putL l at' s.data.toList = splice l at' s.data.toList := by
        unfold putL
        rw [hstr, show at' + s.size - l.length = 0 by omega, List.replicate_zero, List.append_nil]
      rw [hq]
      exact HB2.out

set_option maxHeartbeats 1000000 in
theorem trimDo (d f n0 : Nat) (v : Value) (l : List UInt8) (w : World) (hf : f < 4) (hn0 : n0 ≤ l.length) (_hl : l.length ≤ 4194304)
    (hc : w.cell? ⟨d, 1 + f, none⟩ = some v) (hfr : w.frozen? ⟨d, 1 + f, none⟩ = false) (hdw : d < w.heap.size) (hown : Bytes w v l) :
    Calls Try.prog 77 #[.agg #[.int .i64 f, .int .i64 n0], .pointer (some ⟨d, 1, none⟩)] w fun e w' => e = .returned (.tuple #[]) ∧
      ∃ v' w1, Bytes w1 v' (l.take n0) ∧ Grew w w1 v v' ∧ w' = w1.setCell ⟨d, 1 + f, none⟩ v' := by
  obtain ⟨ao, cap, rfl, hnc, hB, hob⟩ := hown.take hn0
  have hBlt : ∀ k, (Value.slice ao n0 cap).ownBlock = some k → k < w.heap.size := fun k hk => (World.ownsRow.lt hB k hk).2
  obtain ⟨ll, hll⟩ : ∃ ll, ll = l.length := ⟨_, rfl⟩
  rw [← hll] at hc hob _hl hn0 ⊢
  have HO := Lib.hid hown; clear hown
  have HB := Lib.hid hB; clear hB
  have HL := Lib.hid hll; clear hll
  have HOB := Lib.hid hob; clear hob
  clear hBlt
  have hf4 : (f : Int) < 4 := by omega
  go_enter Try.func77, Try.ntmps77
  go_wp2
  go_region
  go_wp2
  go_end0
  refine ⟨rfl, _, (w.alloc (.cells #[.int .i64 f, .int .i64 n0] 84)).drew, HB.out.alloc _, ⟨⟨rfl, rfl, rfl, ?_, ?_⟩, ?_⟩, ?_⟩
  · show w.heap.size ≤ (w.heap.push _).size
    simp
  · intro k hk _
    exact Below.heap_alloc w _ k hk
  · intro k hk
    rw [HOB.out] at hk
    exact .inl hk
  · have := World.setCell_alloc_past (w := w) (.cells #[.int .i64 f, .int .i64 n0] 84) d (1 + f) (.slice ao n0 cap) hdw
    exact (congrArg World.drew this).symm
end Go.Proofs.Ytnmeobbbcccgjaa
