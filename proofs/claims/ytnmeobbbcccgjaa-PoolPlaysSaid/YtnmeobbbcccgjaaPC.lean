/- The contracts of a frame's save and load. -/
import Derived.Test.YtnmeobbbcccgjaaPB
import Derived.StillTailTactics
import Derived.BigQuiet
set_option maxRecDepth 100000
namespace Go.Proofs.Ytnmeobbbcccgjaa
open Go.RowKit

/-- A page's bytes within file 1. -/
def pageOf (F : List UInt8) (q : Nat) : List UInt8 := let s := (F.drop (q * 512)).take 512; s ++ List.replicate (512 - s.length) 0
theorem pageOf_length (F : List UInt8) (q : Nat) : (pageOf F q).length = 512 := by
  unfold pageOf
  simp only [List.length_append, List.length_replicate]
  have : ((F.drop (q * 512)).take 512).length ≤ 512 := List.length_take_le _ _
  omega

set_option maxHeartbeats 800000 in
theorem save_same (fb o d : Nat) (f : Fr) (w : World) (hf : FrAt w fb o f) (hc : f.changed = false) :
    Calls Try.prog 30 #[.pointer (some ⟨fb, o, none⟩), .pointer (some ⟨d, 0, none⟩)] w fun e w' => e = .returned (.tuple #[]) ∧ w' = w := by
  have h3 := hf.changed
  rw [hc] at h3
  clear hf hc
  go_enter Try.func30, Try.ntmps30
  go_wp2
  exact bodyPost_ret (v := .tuple #[]) (by simp [results, Try.results30, go_sem]) rfl ⟨rfl, rfl⟩

set_option maxHeartbeats 1600000 in
theorem save_turn (fb o d : Nat) (f : Fr) (S : Nat → Prop) (ops : List RawOp) (w : World) (h : DiskAt S d ops w) (hlen : ops.length ≤ 4398046511104) (hf : FrAt w fb o f) (hc : f.changed = true) (hq : f.page < 4096) (hb : f.bytes.length = 512) (hfr : ∀ j, w.frozen? ⟨fb, j, none⟩ = false) (hS : ¬ S fb) :
    Calls Try.prog 30 #[.pointer (some ⟨fb, o, none⟩), .pointer (some ⟨d, 0, none⟩)] w fun e w' => e = .returned (.tuple #[]) ∧
      ∃ w1, DiskAt (More S w.heap.size) d (ops ++ [.put 1 (f.page * 512) ⟨f.bytes.toArray⟩]) w1 ∧ Kept S w w1 ∧ w' = w1.setCell ⟨fb, o + 3, none⟩ (.bool false) := by
  have h3 := hf.changed
  rw [hc] at h3
  have h0 := hf.page
  have hcv := fun W (hW : W.heap[fb]? = w.heap[fb]?) => run_string_mid W fb (o + 4) 512 f.bytes (fun j v hv => (World.cell?_of_block hW).trans (hf.bytes j v hv))
  rw [hb] at hcv
  obtain ⟨s, hs⟩ : ∃ s : ByteArray, s = ⟨f.bytes.toArray⟩ := ⟨_, rfl⟩
  rw [← hs] at hcv ⊢
  have hsz : s.size = 512 := by rw [hs, ← hb]; simp [ByteArray.size]
  have hfl : fb < w.heap.size := World.block_lt_of_cell? w _ h3
  obtain ⟨q, hq'⟩ : ∃ q, q = f.page := ⟨_, rfl⟩
  rw [← hq'] at h0 hq ⊢
  have hm : IntKind.i64.wrap ((q : Int) * 512) = (q : Int) * 512 := IntWalk.i64_in _ (by omega)
  have hm2 : ((q * 512 : Nat) : Int) = (q : Int) * 512 := by omega
  have hcv0 := hcv w rfl
  have hcv1 := hcv w.drew rfl
  have HW : Hid (∀ W : World, W.heap = w.heap → W.os = w.os → W.tape = w.tape → W.output = w.output → Calls Try.prog 22 #[.pointer (some ⟨d, 0, none⟩), .int .i64 1, .int .i64 ((q : Int) * 512), .string s] W fun e w' => e = .returned (.int .i64 0) ∧ w'.cell? ⟨fb, o + 3, none⟩ = some (.bool true) ∧ w'.frozen? ⟨fb, o + 3, none⟩ = false ∧ Hid (DiskAt (More S w.heap.size) d (ops ++ [.put 1 (q * 512) s]) w' ∧ Kept S w w')) := Lib.hid (fun W e1 e2 e3 e4 => by
    rw [← hm2]
    have hb1 : Below w.heap.size w W := ⟨e2, e3, e4, by rw [e1]; exact Nat.le_refl _, fun k _ => by rw [e1]⟩
    refine (write_ok 1 (q * 512) s S d ops W (h.below hb1) hlen (by omega) (by omega) (by omega)).mono ?_
    rintro e w' ⟨h1, h2, h3'⟩
    rw [e1] at h2
    have hk : Kept S w w' := (Kept.ofBelow hb1).trans h3' (fun _ hi => .inl hi)
    exact ⟨h1, (World.cell?_of_block (hk.block fb hfl hS)).trans h3, (World.frozen?_of_block (hk.block fb hfl hS)).trans (hfr _), Lib.hid ⟨h2, hk⟩⟩)
  clear h hf hc hcv hs hsz hb hfr hq' hm2 hlen
  go_enter Try.func30, Try.ntmps30
  go_wp2
  go_still_tail 11, (by kernel_rfl)
  go_wp2_with fail
  refine (HW.out w.drew rfl rfl rfl rfl).mono ?_
  rintro e w1 ⟨rfl, hc1, hf1, H1⟩
  go_wp2
  go_end0
  exact ⟨rfl, w1, H1.out.1, H1.out.2, rfl⟩

/-- Behind a save nothing has turned but what is the disk's, and the mark of a frame that was changed. -/
theorem save_any (fb o d : Nat) (f : Fr) (S : Nat → Prop) (ops : List RawOp) (w : World) (h : DiskAt S d ops w) (hlen : ops.length ≤ 4398046511104) (hf : FrAt w fb o f) (hq : f.page < 4096) (hb : f.bytes.length = 512) (hfr : ∀ j, w.frozen? ⟨fb, j, none⟩ = false) (hS : ¬ S fb) :
    Calls Try.prog 30 #[.pointer (some ⟨fb, o, none⟩), .pointer (some ⟨d, 0, none⟩)] w fun e w' => e = .returned (.tuple #[]) ∧
      (f.changed = false ∧ w' = w ∨ f.changed = true ∧ ∃ w1, DiskAt (More S w.heap.size) d (ops ++ [.put 1 (f.page * 512) ⟨f.bytes.toArray⟩]) w1 ∧ Kept S w w1 ∧ w' = w1.setCell ⟨fb, o + 3, none⟩ (.bool false)) := by
  cases hc : f.changed
  · exact (save_same fb o d f w hf hc).mono fun e w' ⟨h1, h2⟩ => ⟨h1, .inl ⟨rfl, h2⟩⟩
  · exact (save_turn fb o d f S ops w h hlen hf hc hq hb hfr hS).mono fun e w' ⟨h1, h2⟩ => ⟨h1, .inr ⟨rfl, h2⟩⟩

theorem zeroFr_cells (q : Nat) : (zeroFr q).cells.toArray.size = 516 := by
  rw [List.size_toArray, Fr.cells_length]; simp [zeroFr]
theorem zeroVFr (w : World) : (zeroValue 72).run Try.prog w = .ok (.agg (zeroFr 0).cells.toArray) w := by kernel_rfl
theorem setFr (q : Nat) : (zeroFr 0).cells.toArray.setIfInBounds 0 (.int .i64 q) = (zeroFr q).cells.toArray := by simp [zeroFr, Fr.cells]
theorem sizeFr : (Try.prog.info? 72).map (·.size) = some 516 := by kernel_rfl

theorem pageOf_mid (F : List UInt8) (q n : Nat) (hn : n = min (F.length - q * 512) 512) : splice (List.replicate 512 0) 0 ((F.drop (q * 512)).take n) = pageOf F q := by
  have h1 : (F.drop (q * 512)).take n = (F.drop (q * 512)).take 512 := by
    rw [hn]
    by_cases h : F.length - q * 512 ≤ 512
    · rw [Nat.min_eq_left h, List.take_of_length_le (by rw [List.length_drop]; exact Nat.le_refl _), List.take_of_length_le (by rw [List.length_drop]; exact h)]
    · rw [Nat.min_eq_right (by omega)]
  rw [h1, splice_at0]
  simp only [pageOf, List.drop_replicate]

set_option maxHeartbeats 3200000 in
theorem load_any (fb o d q : Nat) (S : Nat → Prop) (ops : List RawOp) (w : World) (h : DiskAt S d ops w) (hq : q < 4096) (ht : w.there fb o 516) (hS : ¬ S fb) :
    Calls Try.prog 32 #[.pointer (some ⟨fb, o, none⟩), .pointer (some ⟨d, 0, none⟩), .int .i64 q] w fun e w' => e = .returned (.tuple #[]) ∧
      FrAt w' fb o ⟨q, 0, false, false, pageOf (play ops 1) q⟩ ∧ Touch fb o 516 w w' ∧ Kept (fun k => k = fb) w w' := by
  obtain ⟨X, hX⟩ : ∃ X, X = (zeroFr q).cells.toArray := ⟨_, rfl⟩
  have hXs : X.size = 516 := by rw [hX, zeroFr_cells]
  have hX1 : X.all (·.oneCell') = true := by rw [hX]; exact all_oneCell_toArray (Fr.one _)
  obtain ⟨Z, hZ⟩ : ∃ Z, Z = (zeroFr 0).cells.toArray := ⟨_, rfl⟩
  have hzv := fun W => zeroVFr W
  have hset := setFr q
  rw [← hZ] at hzv hset
  rw [← hX] at hset
  have hZ0 : ¬ Z = #[] := by rw [hZ]; intro e; have := congrArg Array.size e; rw [zeroFr_cells] at this; simp at this
  obtain ⟨w1, hw1⟩ : ∃ w1, w1 = w.setCells fb o X.toList := ⟨_, rfl⟩
  have hk1 : Kept (fun k => k = fb) w w1 := by rw [hw1]; exact Kept.setCells (fun k => k = fb) w (fb := fb) rfl _
  have hd1 : DiskAt S d ops w1 := h.kept hk1 (fun k _ hs e => hS (e ▸ hs))
  have hf1 : FrAt w1 fb o (zeroFr q) := by
    have := World.rangeAt_setCells_same w fb o X.toList (by rw [Array.length_toList, hXs]; exact ht)
    rw [← hw1] at this
    unfold FrAt
    rw [hX] at this
    simpa using this
  have ht1 : Touch fb o 516 w w1 := by rw [hw1]; exact Touch.setCells w o _ (Nat.le_refl _) (by rw [Array.length_toList, hXs]; exact Nat.le_refl _)
  obtain ⟨L, hL⟩ : ∃ L, L = (play ops 1).length := ⟨_, rfl⟩
  have hL4 : L ≤ 4194304 := by rw [hL]; exact play_length h.1 1
  have HSZ : Hid (Calls Try.prog 24 #[.pointer (some ⟨d, 0, none⟩), .int .i64 1] w1 fun e w' => e = .returned (.int .i64 L) ∧ w1 = w') := Lib.hid ((size_ok 1 S d ops w1 hd1 (by omega)).mono fun e w' ⟨h1, h2⟩ => ⟨by rw [h1, hL], h2.symm⟩)
  have htw : w.there fb o X.size := by rw [hXs]; exact ht
  have HT := Lib.hid htw
  have HI : Hid ((Try.prog.info? 72).map (·.size) = some X.size) := Lib.hid (by rw [hXs]; exact sizeFr)
  have HX1 := Lib.hid hX1
  have HW1 := Lib.hid hw1.symm
  have hm : IntKind.i64.wrap ((q : Int) * 512) = (q : Int) * 512 := IntWalk.i64_in _ (by omega)
  obtain ⟨s, hs, HC⟩ : ∃ s : ByteArray, s.data.toList = ((play ops 1).drop (q * 512)).take (min (L - q * 512) 512) ∧
      ((L : Int) - (q : Int) * 512 ≤ 512 ∧ Hid (Calls Try.prog 20 #[.pointer (some ⟨d, 0, none⟩), .int .i64 1, .int .i64 ((q : Int) * 512), .int .i64 ((L : Int) - (q : Int) * 512)] w1 fun e w' => ∃ c, e = .returned (.tuple #[.string s, .int .i64 c]) ∧ w1 = w') ∨
       (512 : Int) < (L : Int) - (q : Int) * 512 ∧ Hid (Calls Try.prog 20 #[.pointer (some ⟨d, 0, none⟩), .int .i64 1, .int .i64 ((q : Int) * 512), .int .i64 512] w1 fun e w' => ∃ c, e = .returned (.tuple #[.string s, .int .i64 c]) ∧ w1 = w')) := by
    have hm2 : ((q * 512 : Nat) : Int) = (q : Int) * 512 := by omega
    rw [← hm2]
    by_cases hA : L < q * 512
    · refine ⟨⟨#[]⟩, ?_, .inl ⟨by omega, Lib.hid ?_⟩⟩
      · rw [show min (L - q * 512) 512 = 0 by omega, List.take_zero]
      · exact (read_no 1 ((q * 512 : Nat) : Int) ((L : Int) - ((q * 512 : Nat) : Int)) S d ops w1 hd1 (by omega) (by omega)).mono fun e w' ⟨h1, h2⟩ => ⟨1, h1, h2.symm⟩
    · by_cases hB : L - q * 512 ≤ 512
      · refine ⟨⟨(((play ops 1).drop (q * 512)).take (L - q * 512)).toArray⟩, ?_, .inl ⟨by omega, Lib.hid ?_⟩⟩
        · rw [Nat.min_eq_left (by omega)]
        · rw [show (L : Int) - ((q * 512 : Nat) : Int) = ((L - q * 512 : Nat) : Int) by omega]
          exact (read_ok 1 (q * 512) (L - q * 512) S d ops w1 hd1 (by omega) (by rw [← hL]; omega)).mono fun e w' ⟨h1, h2⟩ => ⟨0, h1, h2.symm⟩
      · refine ⟨⟨(((play ops 1).drop (q * 512)).take 512).toArray⟩, ?_, .inr ⟨by omega, Lib.hid ?_⟩⟩
        · rw [Nat.min_eq_right (by omega)]
        · exact (read_ok 1 (q * 512) 512 S d ops w1 hd1 (by omega) (by rw [← hL]; omega)).mono fun e w' ⟨h1, h2⟩ => ⟨0, h1, h2.symm⟩
  have hs5 : s.size ≤ 512 := by
    have e : s.data.toList.length = s.size := rfl
    rw [← e, hs, List.length_take]; omega
  have ht4 : w1.there fb (o + 4) s.size := there_part (there_touch ht ht1) (by omega) (by omega)
  have hcp := run_copy_string_mid w1 44 9 3 5 fb (o + 4) 512 512 s Try.underlying44 (by kernel_rfl) ht4 hs5
  have hend : FrAt (w1.setCells fb (o + 4) (Lib.byteCells s.data.toList)) fb o ⟨q, 0, false, false, pageOf (play ops 1) q⟩ ∧ Touch fb o 516 w (w1.setCells fb (o + 4) (Lib.byteCells s.data.toList)) ∧ Kept (fun k => k = fb) w (w1.setCells fb (o + 4) (Lib.byteCells s.data.toList)) := by
    have hsl : (Lib.byteCells s.data.toList).length = s.size := by rw [Lib.byteCells_length]; rfl
    have hfar : ∀ j, j < 4 → (w1.setCells fb (o + 4) (Lib.byteCells s.data.toList)).cell? ⟨fb, o + j, none⟩ = w1.cell? ⟨fb, o + j, none⟩ := fun j hj => World.cell?_setCells_out fb _ (o + 4) w1 _ (fun _ _ => .inl (by show o + j < o + 4; omega))
    refine ⟨FrAt.mk ((hfar 0 (by omega)).trans hf1.page) ((hfar 1 (by omega)).trans hf1.pins) ((hfar 2 (by omega)).trans hf1.lately) ((hfar 3 (by omega)).trans hf1.changed) ?_, ht1.trans (Touch.setCells w1 (o + 4) _ (by omega) (by rw [hsl]; omega)), hk1.trans (Kept.setCells (fun k => k = fb) w1 (fb := fb) rfl _) (fun _ hi => .inl hi)⟩
    have := rangeAt_splice hf1.bytes 0 s.data.toList (by show 0 + s.size ≤ _; simp [zeroFr]; omega) ht4
    rw [show (zeroFr q).bytes = List.replicate 512 0 from rfl, hs, pageOf_mid _ q _ (by rw [hL])] at this
    rw [hs]
    exact this
  have HE := Lib.hid hend
  clear hend htw hX1 hX hXs hw1 hZ hs hL ht hk1 hf1 ht1 h hd1
  rcases HC with ⟨hlt, HR⟩ | ⟨hge, HR⟩
  all_goals
    go_enter Try.func32, Try.ntmps32
    go_wp2_with (refine wpList_store_mid rfl 72 _ _ rfl fb o X (by rfl) (by rfl) HT.out HI.out HX1.out ?_)
    rw [HW1.out]
    go_wp2_with fail
    refine HSZ.out.mono ?_
    rintro e w' ⟨rfl, rfl⟩
    go_wp2_with fail
    refine HR.out.mono ?_
    rintro e w' ⟨c, rfl, rfl⟩
    go_wp2
    go_end0
    exact ⟨rfl, HE.out⟩
end Go.Proofs.Ytnmeobbbcccgjaa
