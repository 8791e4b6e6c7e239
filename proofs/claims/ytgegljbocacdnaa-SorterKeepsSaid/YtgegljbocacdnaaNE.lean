/- Sorted and Runs; a sorter's whole state. -/
import Derived.Test.YtgegljbocacdnaaND
set_option maxRecDepth 100000
namespace Go.Proofs.Ytgegljbocacdnaa
open Go.RowKit

/-- A sorter that has told its texts. -/
def SoOver (s : Nat) (w : World) : Prop := s < w.heap.size ∧ w.cell? ⟨s, 0, none⟩ = some (.pointer (some ⟨s, 0, none⟩)) ∧ w.cell? ⟨s, 5, none⟩ = some (.bool true)
theorem SoOver.below {s : Nat} {w w' : World} (h : SoOver s w) (hb : Below w.heap.size w w') : SoOver s w' :=
  ⟨Nat.lt_of_lt_of_le h.1 hb.size, (hb.cell (p := ⟨s, 0, none⟩) h.1).trans h.2.1, (hb.cell (p := ⟨s, 5, none⟩) h.1).trans h.2.2⟩
theorem SoAt.toRuns {B s room tk : Nat} {hv rv : Value} {vs : List Value} {hand : List ByteArray} {rss : List (List ByteArray)} {w : World} (h : SoAt B s room tk hv rv vs hand rss false w) : ∃ a c, rv = .slice a rss.length c ∧ Runs w (.slice a rss.length c) rss := by
  have hlen := h.len
  rcases h.runs.2 with ⟨e, h0⟩ | ⟨g, cap, cur, e, _, hg, _⟩
  · have hr : rss = [] := List.eq_nil_of_length_eq_zero (by omega)
    subst hr
    exact ⟨none, 0, e, none, 0, rfl, .inl rfl⟩
  · refine ⟨_, cap, by rw [e, hlen], _, cap, rfl, .inr ⟨g, 0, rfl, (Array.getElem?_eq_some_iff.1 hg).1, fun j hj => ?_⟩⟩
    have hj' : j < vs.length := by omega
    have := h.runs.cells (g := g) (by rw [e]; rfl) j vs[j] (List.getElem?_eq_getElem hj')
    rw [Addr.add_lit] at this
    exact ⟨vs[j], this, (h.each j vs[j] rss[j] (List.getElem?_eq_getElem hj') (List.getElem?_eq_getElem hj)).1.textC⟩

/-- What Sorted leaves. -/
def SortedPost (B s : Nat) (hv rv : Value) (vs : List Value) (all : List ByteArray) (w : World) (e : Ending) (w' : World) : Prop :=
  ∃ v, e = .returned (.tuple #[v, .int .i64 0]) ∧ Strs w.heap.size w' v (srtS all) ∧ SoOver s w' ∧ Below B w w' ∧ ∀ k, k < w.heap.size → ¬ Foot s hv rv vs k → w'.heap[k]? = w.heap[k]?

set_option maxHeartbeats 3200000 in
theorem soSorted_any (B s room tk : Nat) (hv rv : Value) (vs : List Value) (hand : List ByteArray) (rss : List (List ByteArray)) (w : World) (h : SoAt B s room tk hv rv vs hand rss false w) (hB : B ≤ w.heap.size) (hr : ∀ l, l ∈ rss → Rise l) (hl : rss.flatten.length + hand.length ≤ 4194304) (hn : rss.length < 4194304) :
    Calls Try.prog 13 #[.pointer (some ⟨s, 0, none⟩)] w (SortedPost B s hv rv vs (rss.flatten ++ hand) w) := by
  have HRE := Lib.hid (soRefuses_at s false w (by rw [h.cell]; rfl) (by rw [h.cell]; rfl))
  have HE := Lib.hid (endRun_any B s room tk hv rv vs hand rss w h hB (by omega) hn)
  have HR := Lib.hid hr
  have HL := Lib.hid hl
  have HLN := Lib.hid hn
  obtain ⟨all, hall⟩ : ∃ all, all = rss.flatten ++ hand := ⟨_, rfl⟩
  rw [← hall]
  have HALL := Lib.hid hall
  clear h hr hl hn hall
  go_enter Try.func13, Try.ntmps13
  go_wp2_with fail
  refine HRE.out.mono ?_
  rintro e w0 ⟨rfl, rfl⟩
  go_wp2_with fail
  refine HE.out.mono ?_
  rintro e w1 ⟨rfl, hb1, rv1, vs1, h1, hf1⟩
  obtain ⟨ar, cr, rfl, hR⟩ := h1.toRuns
  have hB1 : B ≤ w1.heap.size := Nat.le_trans hB hb1.size
  have hM := merged_any (rss ++ [srtS hand]) ar _ cr w1 rfl hR (by rw [List.length_append]; simp; have := HLN.out; omega) (by rw [List.flatten_append, List.length_append]; simp; rw [srtS_len]; have := HL.out; simpa using this) (fun l hl => by
    rcases List.mem_append.1 hl with hl | hl
    · exact HR.out l hl
    · rw [List.mem_singleton.1 hl]; exact srtS_rise hand)
  have heq : srtS (rss ++ [srtS hand]).flatten = srtS (rss.flatten ++ hand) := srtS_congr (by
    rw [List.flatten_append]
    simpa using (srtS_perm hand).append_left rss.flatten)
  rw [heq, ← HALL.out] at hM
  obtain ⟨nr, hnr⟩ : ∃ n, n = (rss ++ [srtS hand]).length := ⟨_, rfl⟩
  rw [← hnr] at hM h1
  have c4 : w1.cell? ⟨s, 4, none⟩ = some (.slice ar nr cr) := by rw [h1.cell]; rfl
  have HM := Lib.hid hM
  have HB1 := Lib.hid hb1
  have HF1 := Lib.hid hf1
  have H1 := Lib.hid h1
  have hge := h1.ge
  have hls := h1.lt
  clear hM hb1 hf1 h1 hR heq hnr HE
  go_wp2_with fail
  refine HM.out.mono ?_
  rintro e w2 ⟨v2, rfl, hs2, hb2⟩
  have hb3 : w2.heap[s]? = some (.cells (soCells s room tk (.slice none 0 0) (.slice ar nr cr) false) 42 (0, 0)) := (hb2.block s hls).trans H1.out.blk
  have e4 := heap_setCell_same w2 s 4 _ 42 (.slice none 0 0) hb3
  have e5 := heap_setCell_same _ s 5 _ 42 (.bool true) e4
  have hgs : w2.grownBy ((w2.setCell ⟨s, 4, none⟩ (.slice none 0 0)).setCell ⟨s, 5, none⟩ (.bool true)) (some s) := ⟨rfl, rfl, rfl, by simp, fun k hk hne => by
    have hne' : s ≠ k := fun e => hne (by rw [e])
    exact (heap_setCell_other _ ⟨s, 5, none⟩ k _ (fun e => hne' e.symm)).trans (heap_setCell_other w2 ⟨s, 4, none⟩ k _ (fun e => hne' e.symm))⟩
  have d4 : w2.cell? ⟨s, 4, none⟩ = some (.slice ar nr cr) := by rw [Lib.cell_of_heap hb3]; rfl
  have d5 : w2.cell? ⟨s, 5, none⟩ = some (.bool false) := by rw [Lib.cell_of_heap hb3]; rfl
  have f4 : w2.frozen? ⟨s, 4, none⟩ = false := Lib.frozen_of_heap hb3 4
  have f5 : w2.frozen? ⟨s, 5, none⟩ = false := Lib.frozen_of_heap hb3 5
  have HP : Hid (SortedPost B s hv rv vs all w (.returned (.tuple #[v2, .int .i64 0])) ((w2.setCell ⟨s, 4, none⟩ (.slice none 0 0)).setCell ⟨s, 5, none⟩ (.bool true))) := Lib.hid (by
    refine ⟨v2, rfl, (hs2.mono HF1.out.size).kept hgs (.inr (hs2.ne hb3 (by decide))), ⟨?_, ?_, ?_⟩, ?_, fun k hk hf => ?_⟩
    · simp; exact Nat.lt_of_lt_of_le hls hb2.size
    · rw [Lib.cell_of_heap e5]; rfl
    · rw [Lib.cell_of_heap e5]; rfl
    · exact HB1.out.trans ((hb2.mono hB1).trans ⟨rfl, rfl, rfl, hgs.size, fun k hk => hgs.block k (Nat.lt_of_lt_of_le (Nat.lt_of_lt_of_le hk hB1) hb2.size) (fun e => by injection e with e; omega)⟩)
    · have k1 := Nat.lt_of_lt_of_le hk HF1.out.size
      exact (hgs.block k (Nat.lt_of_lt_of_le k1 hb2.size) (fun e => by injection e with e; exact hf (.inl e))).trans ((hb2.block k k1).trans (HF1.out.keep k hk hf)))
  clear hs2 hb2 hb3 e4 e5 hgs HM
  go_wp2
  go_ret2
  exact HP.out

set_option maxHeartbeats 1600000 in
theorem soRuns_any (B s room tk : Nat) (hv rv : Value) (vs : List Value) (hand : List ByteArray) (rss : List (List ByteArray)) (w : World) (h : SoAt B s room tk hv rv vs hand rss false w) (hr1 : 1 ≤ room) (hr2 : room ≤ 65536) (ht : tk ≤ 4194304) :
    Calls Try.prog 12 #[.pointer (some ⟨s, 0, none⟩)] w fun e w' => e = .returned (.int .i64 (((tk + room - 1) / room : Nat) : Int)) ∧ ∃ n, w.drewN n = w' := by
  have HG := Lib.hid (soGiven_self s w (by rw [h.cell]; rfl))
  have c1 : w.cell? ⟨s, 1, none⟩ = some (.int .i64 room) := by rw [h.cell]; rfl
  have c2 : w.cell? ⟨s, 2, none⟩ = some (.int .i64 tk) := by rw [h.cell]; rfl
  have hw1 : IntKind.i64.wrap ((tk : Int) + room) = (tk : Int) + room := IntWalk.i64_in _ (by omega)
  have hw2 : IntKind.i64.wrap ((tk : Int) + room - 1) = (tk : Int) + room - 1 := IntWalk.i64_in _ (by omega)
  have hr0 : ¬ (room : Int) = 0 := by omega
  obtain ⟨Q, hQ⟩ : ∃ Q, Q = (tk + room - 1) / room := ⟨_, rfl⟩
  have hd : ((tk : Int) + room - 1).tdiv room = (Q : Int) := by
    rw [hQ, Int.tdiv_eq_ediv_of_nonneg (by omega)]
    have e : ((tk : Int) + room - 1) = ((tk + room - 1 : Nat) : Int) := by omega
    rw [e]; rfl
  have hQ9 : Q ≤ 9000000 := by rw [hQ]; exact Nat.le_trans (Nat.div_le_self _ _) (by omega)
  have hw3 : IntKind.i64.wrap (Q : Int) = (Q : Int) := IntWalk.i64_in _ (by omega)
  rw [← hQ]
  clear h hQ
  go_enter Try.func12, Try.ntmps12
  go_wp2_with fail
  refine HG.out.mono ?_
  rintro e w0 ⟨rfl, rfl⟩
  go_wp2_with fail
  go_quiet (fail)
  go_wp2
  go_ret
  exact ⟨rfl, _, rfl⟩
end Go.Proofs.Ytgegljbocacdnaa
