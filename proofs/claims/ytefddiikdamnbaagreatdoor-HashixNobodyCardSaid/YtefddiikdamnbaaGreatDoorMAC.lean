/- Texts of the same proof, one behind the other: PC, PD, PE, PF, PG, PH. -/
import Derived.Test.YtefddiikdamnbaaGreatDoorMAB
import Derived.StillTailTactics
import Derived.BigQuiet
/- The contracts of a frame's save and load. -/
set_option maxRecDepth 100000
namespace Go.Proofs.YtefddiikdamnbaaGreatDoor
open Go.RowKit

/-- A page's bytes within file 1. -/
def pageOf (F : List UInt8) (q : Nat) : List UInt8 := let s := (F.drop (q * 512)).take 512; s ++ List.replicate (512 - s.length) 0
theorem pageOf_length (F : List UInt8) (q : Nat) : (pageOf F q).length = 512 := by
  unfold pageOf
  simp only [List.length_append, List.length_replicate]
  have : ((F.drop (q * 512)).take 512).length ≤ 512 := List.length_take_le _ _
  omega

set_option maxHeartbeats 800000 in
theorem save_same (fb o d : Nat) (f : Fr) (w : World) (hf : FrAt w fb o f) (hc : f.changed = false) :
    Calls Tryz.prog 172 #[.pointer (some ⟨fb, o, none⟩), .pointer (some ⟨d, 0, none⟩)] w fun e w' => e = .returned (.tuple #[]) ∧ w' = w := by
  have h3 := hf.changed
  rw [hc] at h3
  clear hf hc
  go_enter Tryz.func172, Tryz.ntmps172
  go_wp2
  exact bodyPost_ret (v := .tuple #[]) (by simp [results, Tryz.results172, go_sem]) rfl ⟨rfl, rfl⟩

set_option maxHeartbeats 1600000 in
theorem save_turn (fb o d : Nat) (f : Fr) (S : Nat → Prop) (ops : List RawOp) (w : World) (h : DiskAt S d ops w) (hlen : ops.length ≤ 4398046511104) (hf : FrAt w fb o f) (hc : f.changed = true) (hq : f.page < 4096) (hb : f.bytes.length = 512) (hfr : ∀ j, w.frozen? ⟨fb, j, none⟩ = false) (hS : ¬ S fb) :
    Calls Tryz.prog 172 #[.pointer (some ⟨fb, o, none⟩), .pointer (some ⟨d, 0, none⟩)] w fun e w' => e = .returned (.tuple #[]) ∧
      ∃ w1, DiskAt (More S w.heap.size) d (ops ++ [.put 1 (f.page * 512) ⟨f.bytes.toArray⟩]) w1 ∧ Kept S w w1 ∧ w' = w1.setCell ⟨fb, o + 3, none⟩ (.bool false) := by
  have h3 := hf.changed
  rw [hc] at h3
  have h0 := hf.page
  have hcv := fun W (hW : W.heap[fb]? = w.heap[fb]?) => run_string_mid W fb (o + 4) 512 f.bytes (fun j v hv => (World.cell?_of_block hW).trans (hf.bytes j v hv))
  rw [hb] at hcv
  obtain ⟨s, hs⟩ : ∃ s : ByteArray, s = ⟨f.bytes.toArray⟩ := ⟨_, rfl⟩
  rw [← hs] at hcv ⊢
  have hsz : s.size = 512 := by rw [hs, ← hb]; simp [ByteArray.size]
  have hfl : fb < w.heap.size := World.block_lt_of_cell? w _ h3
  obtain ⟨q, hq'⟩ : ∃ q, q = f.page := ⟨_, rfl⟩
  rw [← hq'] at h0 hq ⊢
  have hm : IntKind.i64.wrap ((q : Int) * 512) = (q : Int) * 512 := IntWalk.i64_in _ (by omega)
  have hm2 : ((q * 512 : Nat) : Int) = (q : Int) * 512 := by omega
  have hcv0 := hcv w rfl
  have hcv1 := hcv w.drew rfl
  have HW : Hid (∀ W : World, W.heap = w.heap → W.os = w.os → W.tape = w.tape → W.output = w.output → Calls Tryz.prog 118 #[.pointer (some ⟨d, 0, none⟩), .int .i64 1, .int .i64 ((q : Int) * 512), .string s] W fun e w' => e = .returned (.int .i64 0) ∧ w'.cell? ⟨fb, o + 3, none⟩ = some (.bool true) ∧ w'.frozen? ⟨fb, o + 3, none⟩ = false ∧ Hid (DiskAt (More S w.heap.size) d (ops ++ [.put 1 (q * 512) s]) w' ∧ Kept S w w')) := Lib.hid (fun W e1 e2 e3 e4 => by
    rw [← hm2]
    have hb1 : Below w.heap.size w W := ⟨e2, e3, e4, by rw [e1]; exact Nat.le_refl _, fun k _ => by rw [e1]⟩
    refine (write_ok 1 (q * 512) s S d ops W (h.below hb1) hlen (by omega) (by omega) (by omega)).mono ?_
    rintro e w' ⟨h1, h2, h3'⟩
    rw [e1] at h2
    have hk : Kept S w w' := (Kept.ofBelow hb1).trans h3' (fun _ hi => .inl hi)
    exact ⟨h1, (World.cell?_of_block (hk.block fb hfl hS)).trans h3, (World.frozen?_of_block (hk.block fb hfl hS)).trans (hfr _), Lib.hid ⟨h2, hk⟩⟩)
  clear h hf hc hcv hs hsz hb hfr hq' hm2 hlen
  go_enter Tryz.func172, Tryz.ntmps172
  go_wp2
  go_still_tail 11, (by kernel_rfl)
  go_wp2_with fail
  refine (HW.out w.drew rfl rfl rfl rfl).mono ?_
  rintro e w1 ⟨rfl, hc1, hf1, H1⟩
  go_wp2
  go_end0
  exact ⟨rfl, w1, H1.out.1, H1.out.2, rfl⟩

/-- Behind a save nothing has turned but what is the disk's, and the mark of a frame that was changed. -/
theorem save_any (fb o d : Nat) (f : Fr) (S : Nat → Prop) (ops : List RawOp) (w : World) (h : DiskAt S d ops w) (hlen : ops.length ≤ 4398046511104) (hf : FrAt w fb o f) (hq : f.page < 4096) (hb : f.bytes.length = 512) (hfr : ∀ j, w.frozen? ⟨fb, j, none⟩ = false) (hS : ¬ S fb) :
    Calls Tryz.prog 172 #[.pointer (some ⟨fb, o, none⟩), .pointer (some ⟨d, 0, none⟩)] w fun e w' => e = .returned (.tuple #[]) ∧
      (f.changed = false ∧ w' = w ∨ f.changed = true ∧ ∃ w1, DiskAt (More S w.heap.size) d (ops ++ [.put 1 (f.page * 512) ⟨f.bytes.toArray⟩]) w1 ∧ Kept S w w1 ∧ w' = w1.setCell ⟨fb, o + 3, none⟩ (.bool false)) := by
  cases hc : f.changed
  · exact (save_same fb o d f w hf hc).mono fun e w' ⟨h1, h2⟩ => ⟨h1, .inl ⟨rfl, h2⟩⟩
  · exact (save_turn fb o d f S ops w h hlen hf hc hq hb hfr hS).mono fun e w' ⟨h1, h2⟩ => ⟨h1, .inr ⟨rfl, h2⟩⟩

theorem zeroFr_cells (q : Nat) : (zeroFr q).cells.toArray.size = 516 := by
  rw [List.size_toArray, Fr.cells_length]; simp [zeroFr]
theorem zeroVFr (w : World) : (zeroValue 191).run Tryz.prog w = .ok (.agg (zeroFr 0).cells.toArray) w := by kernel_rfl
theorem setFr (q : Nat) : (zeroFr 0).cells.toArray.setIfInBounds 0 (.int .i64 q) = (zeroFr q).cells.toArray := by simp [zeroFr, Fr.cells]
theorem sizeFr : (Tryz.prog.info? 191).map (·.size) = some 516 := by kernel_rfl

theorem pageOf_mid (F : List UInt8) (q n : Nat) (hn : n = min (F.length - q * 512) 512) : splice (List.replicate 512 0) 0 ((F.drop (q * 512)).take n) = pageOf F q := by
  have h1 : (F.drop (q * 512)).take n = (F.drop (q * 512)).take 512 := by
    rw [hn]
    by_cases h : F.length - q * 512 ≤ 512
    · rw [Nat.min_eq_left h, List.take_of_length_le (by rw [List.length_drop]; exact Nat.le_refl _), List.take_of_length_le (by rw [List.length_drop]; exact h)]
    · rw [Nat.min_eq_right (by omega)]
  rw [h1, splice_at0]
  simp only [pageOf, List.drop_replicate]

set_option maxHeartbeats 3200000 in
theorem load_any (fb o d q : Nat) (S : Nat → Prop) (ops : List RawOp) (w : World) (h : DiskAt S d ops w) (hq : q < 4096) (ht : w.there fb o 516) (hS : ¬ S fb) :
    Calls Tryz.prog 164 #[.pointer (some ⟨fb, o, none⟩), .pointer (some ⟨d, 0, none⟩), .int .i64 q] w fun e w' => e = .returned (.tuple #[]) ∧
      FrAt w' fb o ⟨q, 0, false, false, pageOf (play ops 1) q⟩ ∧ Touch fb o 516 w w' ∧ Kept (fun k => k = fb) w w' := by
  obtain ⟨X, hX⟩ : ∃ X, X = (zeroFr q).cells.toArray := ⟨_, rfl⟩
  have hXs : X.size = 516 := by rw [hX, zeroFr_cells]
  have hX1 : X.all (·.oneCell') = true := by rw [hX]; exact all_oneCell_toArray (Fr.one _)
  obtain ⟨Z, hZ⟩ : ∃ Z, Z = (zeroFr 0).cells.toArray := ⟨_, rfl⟩
  have hzv := fun W => zeroVFr W
  have hset := setFr q
  rw [← hZ] at hzv hset
  rw [← hX] at hset
  have hZ0 : ¬ Z = #[] := by rw [hZ]; intro e; have := congrArg Array.size e; rw [zeroFr_cells] at this; simp at this
  obtain ⟨w1, hw1⟩ : ∃ w1, w1 = w.setCells fb o X.toList := ⟨_, rfl⟩
  have hk1 : Kept (fun k => k = fb) w w1 := by rw [hw1]; exact Kept.setCells (fun k => k = fb) w (fb := fb) rfl _
  have hd1 : DiskAt S d ops w1 := h.kept hk1 (fun k _ hs e => hS (e ▸ hs))
  have hf1 : FrAt w1 fb o (zeroFr q) := by
    have := World.rangeAt_setCells_same w fb o X.toList (by rw [Array.length_toList, hXs]; exact ht)
    rw [← hw1] at this
    unfold FrAt
    rw [hX] at this
    simpa using this
  have ht1 : Touch fb o 516 w w1 := by rw [hw1]; exact Touch.setCells w o _ (Nat.le_refl _) (by rw [Array.length_toList, hXs]; exact Nat.le_refl _)
  obtain ⟨L, hL⟩ : ∃ L, L = (play ops 1).length := ⟨_, rfl⟩
  have hL4 : L ≤ 4194304 := by rw [hL]; exact play_length h.1 1
  have HSZ : Hid (Calls Tryz.prog 101 #[.pointer (some ⟨d, 0, none⟩), .int .i64 1] w1 fun e w' => e = .returned (.int .i64 L) ∧ w1 = w') := Lib.hid ((size_ok 1 S d ops w1 hd1 (by omega)).mono fun e w' ⟨h1, h2⟩ => ⟨by rw [h1, hL], h2.symm⟩)
  have htw : w.there fb o X.size := by rw [hXs]; exact ht
  have HT := Lib.hid htw
  have HI : Hid ((Tryz.prog.info? 191).map (·.size) = some X.size) := Lib.hid (by rw [hXs]; exact sizeFr)
  have HX1 := Lib.hid hX1
  have HW1 := Lib.hid hw1.symm
  have hm : IntKind.i64.wrap ((q : Int) * 512) = (q : Int) * 512 := IntWalk.i64_in _ (by omega)
  obtain ⟨s, hs, HC⟩ : ∃ s : ByteArray, s.data.toList = ((play ops 1).drop (q * 512)).take (min (L - q * 512) 512) ∧
      ((L : Int) - (q : Int) * 512 ≤ 512 ∧ Hid (Calls Tryz.prog 100 #[.pointer (some ⟨d, 0, none⟩), .int .i64 1, .int .i64 ((q : Int) * 512), .int .i64 ((L : Int) - (q : Int) * 512)] w1 fun e w' => ∃ c, e = .returned (.tuple #[.string s, .int .i64 c]) ∧ w1 = w') ∨
       (512 : Int) < (L : Int) - (q : Int) * 512 ∧ Hid (Calls Tryz.prog 100 #[.pointer (some ⟨d, 0, none⟩), .int .i64 1, .int .i64 ((q : Int) * 512), .int .i64 512] w1 fun e w' => ∃ c, e = .returned (.tuple #[.string s, .int .i64 c]) ∧ w1 = w')) := by
    have hm2 : ((q * 512 : Nat) : Int) = (q : Int) * 512 := by omega
    rw [← hm2]
    by_cases hA : L < q * 512
    · refine ⟨⟨#[]⟩, ?_, .inl ⟨by omega, Lib.hid ?_⟩⟩
      · rw [show min (L - q * 512) 512 = 0 by omega, List.take_zero]
      · exact (read_no 1 ((q * 512 : Nat) : Int) ((L : Int) - ((q * 512 : Nat) : Int)) S d ops w1 hd1 (by omega) (by omega)).mono fun e w' ⟨h1, h2⟩ => ⟨1, h1, h2.symm⟩
    · by_cases hB : L - q * 512 ≤ 512
      · refine ⟨⟨(((play ops 1).drop (q * 512)).take (L - q * 512)).toArray⟩, ?_, .inl ⟨by omega, Lib.hid ?_⟩⟩
        · rw [Nat.min_eq_left (by omega)]
        · rw [show (L : Int) - ((q * 512 : Nat) : Int) = ((L - q * 512 : Nat) : Int) by omega]
          exact (read_ok 1 (q * 512) (L - q * 512) S d ops w1 hd1 (by omega) (by rw [← hL]; omega)).mono fun e w' ⟨h1, h2⟩ => ⟨0, h1, h2.symm⟩
      · refine ⟨⟨(((play ops 1).drop (q * 512)).take 512).toArray⟩, ?_, .inr ⟨by omega, Lib.hid ?_⟩⟩
        · rw [Nat.min_eq_right (by omega)]
        · exact (read_ok 1 (q * 512) 512 S d ops w1 hd1 (by omega) (by rw [← hL]; omega)).mono fun e w' ⟨h1, h2⟩ => ⟨0, h1, h2.symm⟩
  have hs5 : s.size ≤ 512 := by
    have e : s.data.toList.length = s.size := rfl
    rw [← e, hs, List.length_take]; omega
  have ht4 : w1.there fb (o + 4) s.size := there_part (there_touch ht ht1) (by omega) (by omega)
  have hcp := run_copy_string_mid w1 113 9 3 5 fb (o + 4) 512 512 s Tryz.underlying113 (by kernel_rfl) ht4 hs5
  have hend : FrAt (w1.setCells fb (o + 4) (Lib.byteCells s.data.toList)) fb o ⟨q, 0, false, false, pageOf (play ops 1) q⟩ ∧ Touch fb o 516 w (w1.setCells fb (o + 4) (Lib.byteCells s.data.toList)) ∧ Kept (fun k => k = fb) w (w1.setCells fb (o + 4) (Lib.byteCells s.data.toList)) := by
    have hsl : (Lib.byteCells s.data.toList).length = s.size := by rw [Lib.byteCells_length]; rfl
    have hfar : ∀ j, j < 4 → (w1.setCells fb (o + 4) (Lib.byteCells s.data.toList)).cell? ⟨fb, o + j, none⟩ = w1.cell? ⟨fb, o + j, none⟩ := fun j hj => World.cell?_setCells_out fb _ (o + 4) w1 _ (fun _ _ => .inl (by show o + j < o + 4; omega))
    refine ⟨FrAt.mk ((hfar 0 (by omega)).trans hf1.page) ((hfar 1 (by omega)).trans hf1.pins) ((hfar 2 (by omega)).trans hf1.lately) ((hfar 3 (by omega)).trans hf1.changed) ?_, ht1.trans (Touch.setCells w1 (o + 4) _ (by omega) (by rw [hsl]; omega)), hk1.trans (Kept.setCells (fun k => k = fb) w1 (fb := fb) rfl _) (fun _ hi => .inl hi)⟩
    have := rangeAt_splice hf1.bytes 0 s.data.toList (by show 0 + s.size ≤ _; simp [zeroFr]; omega) ht4
    rw [show (zeroFr q).bytes = List.replicate 512 0 from rfl, hs, pageOf_mid _ q _ (by rw [hL])] at this
    rw [hs]
    exact this
  have HE := Lib.hid hend
  clear hend htw hX1 hX hXs hw1 hZ hs hL ht hk1 hf1 ht1 h hd1
  rcases HC with ⟨hlt, HR⟩ | ⟨hge, HR⟩
  all_goals
    go_enter Tryz.func164, Tryz.ntmps164
    go_wp2_with (refine wpList_store_mid rfl 191 _ _ rfl fb o X (by rfl) (by rfl) HT.out HI.out HX1.out ?_)
    rw [HW1.out]
    go_wp2_with fail
    refine HSZ.out.mono ?_
    rintro e w' ⟨rfl, rfl⟩
    go_wp2_with fail
    refine HR.out.mono ?_
    rintro e w' ⟨c, rfl, rfl⟩
    go_wp2
    go_end0
    exact ⟨rfl, HE.out⟩
end Go.Proofs.YtefddiikdamnbaaGreatDoor

/- What a pool holds and where it lies; the contracts of its given, pinned, Pins, Read. -/
set_option maxRecDepth 100000
namespace Go.Proofs.YtefddiikdamnbaaGreatDoor
open Go.RowKit

theorem sizeP : (Tryz.prog.info? 172).map (·.size) = some 5 := by kernel_rfl

set_option maxHeartbeats 400000 in
theorem pgiven_self (l : Nat) (w : World) (h : w.cell? ⟨l, 0, none⟩ = some (.pointer (some ⟨l, 0, none⟩))) :
    Calls Tryz.prog 121 #[.pointer (some ⟨l, 0, none⟩)] w fun e w' => e = .returned (.bool true) ∧ w' = w := by
  obtain ⟨j, hj, _⟩ := Option.map_eq_some_iff.1 sizeP
  have hq := run_eql_ptr_same (P := Tryz.prog) w (tp := 51) (te := 172) ⟨l, 0, none⟩ Tryz.underlying51 hj
  go_enter Tryz.func121, Tryz.ntmps121
  go_wp2
  go_ret
  exact ⟨rfl, rfl⟩

def ptrFr (fb i : Nat) : Value := .pointer (some ⟨fb, i * 516, none⟩)

/-- A pool lies at block p: n frames in block fb, of which fr tells those that hold pages; m of them are in the map at block mb. -/
structure PoolG (p d fb mb n hand m : Nat) (fr : Nat → Option Fr) (w : World) : Prop where
  blk : w.heap[p]? = some (.cells #[.pointer (some ⟨p, 0, none⟩), .pointer (some ⟨d, 0, none⟩), .slice (some ⟨fb, 0, none⟩) n n, .map (some mb), .int .i64 hand] 172 (0, 0))
  n1 : 1 ≤ n
  n2 : n ≤ 1024
  hand_ : hand < n
  room : w.there fb 0 (n * 516)
  froz : ∀ j, w.frozen? ⟨fb, j, none⟩ = false
  at_ : ∀ i f, fr i = some f → i < n ∧ FrAt w fb (i * 516) f ∧ f.bytes.length = 512 ∧ f.page < 4096
  one : ∀ i j f g, fr i = some f → fr j = some g → f.page = g.page → i = j
  map : ∃ F, PMap w mb m F ∧ (∀ i f, fr i = some f → F f.page = some (ptrFr fb i)) ∧ ∀ q v, F q = some v → ∃ i f, fr i = some f ∧ (f.page : Int) = q ∧ v = ptrFr fb i
  pf : p ≠ fb
  pm : p ≠ mb
  fm : fb ≠ mb

section
variable {p d fb mb n hand m : Nat} {fr : Nat → Option Fr} {w w' : World}
theorem PoolG.lt (h : PoolG p d fb mb n hand m fr w) : p < w.heap.size := (Array.getElem?_eq_some_iff.1 h.blk).1
theorem PoolG.ltF (h : PoolG p d fb mb n hand m fr w) : fb < w.heap.size := by
  obtain ⟨u, hu⟩ := Option.isSome_iff_exists.1 (h.room 0 (by have := h.n1; omega)).1
  exact World.block_lt_of_cell? w _ hu
theorem PoolG.ltM (h : PoolG p d fb mb n hand m fr w) : mb < w.heap.size := by
  obtain ⟨F, hF, _⟩ := h.map
  exact hF.lt
theorem PoolG.c0 (h : PoolG p d fb mb n hand m fr w) : w.cell? ⟨p, 0, none⟩ = some (.pointer (some ⟨p, 0, none⟩)) := by rw [Lib.cell_of_heap h.blk]; rfl
theorem PoolG.c1 (h : PoolG p d fb mb n hand m fr w) : w.cell? ⟨p, 1, none⟩ = some (.pointer (some ⟨d, 0, none⟩)) := by rw [Lib.cell_of_heap h.blk]; rfl
theorem PoolG.c2 (h : PoolG p d fb mb n hand m fr w) : w.cell? ⟨p, 2, none⟩ = some (.slice (some ⟨fb, 0, none⟩) n n) := by rw [Lib.cell_of_heap h.blk]; rfl
theorem PoolG.c3 (h : PoolG p d fb mb n hand m fr w) : w.cell? ⟨p, 3, none⟩ = some (.map (some mb)) := by rw [Lib.cell_of_heap h.blk]; rfl
theorem PoolG.c4 (h : PoolG p d fb mb n hand m fr w) : w.cell? ⟨p, 4, none⟩ = some (.int .i64 hand) := by rw [Lib.cell_of_heap h.blk]; rfl

/-- The pool stays what it is where none of its blocks is written. -/
theorem PoolG.block (h : PoolG p d fb mb n hand m fr w) (h1 : w'.heap[p]? = w.heap[p]?) (h2 : w'.heap[fb]? = w.heap[fb]?) (h3 : w'.heap[mb]? = w.heap[mb]?) : PoolG p d fb mb n hand m fr w' := by
  obtain ⟨F, hF, h4, h5⟩ := h.map
  refine ⟨h1.trans h.blk, h.n1, h.n2, h.hand_, there_touch h.room (Touch.ofBlock (o := 0) (n := 0) h2), fun j => (World.frozen?_of_block h2).trans (h.froz j), fun i f hf => ?_, h.one, ⟨F, hF.block h3, h4, h5⟩, h.pf, h.pm, h.fm⟩
  obtain ⟨a, b, c⟩ := h.at_ i f hf
  exact ⟨a, fun j v hv => (World.cell?_of_block h2).trans (b j v hv), c⟩
theorem PoolG.kept {S : Nat → Prop} (h : PoolG p d fb mb n hand m fr w) (hk : Kept S w w') (h1 : ¬ S p) (h2 : ¬ S fb) (h3 : ¬ S mb) : PoolG p d fb mb n hand m fr w' :=
  h.block (hk.block p h.lt h1) (hk.block fb h.ltF h2) (hk.block mb h.ltM h3)
theorem PoolG.below (h : PoolG p d fb mb n hand m fr w) (hk : Below w.heap.size w w') : PoolG p d fb mb n hand m fr w' :=
  h.block (hk.block p h.lt) (hk.block fb h.ltF) (hk.block mb h.ltM)

/-- One frame has turned; of its page and whose it is nothing. -/
theorem PoolG.turnFr (h : PoolG p d fb mb n hand m fr w) {i : Nat} {f f' : Fr} (hi : fr i = some f) (ht : Touch fb (i * 516) 516 w w') (hk : Kept (fun k => k = fb) w w') (hf : FrAt w' fb (i * 516) f') (hb : f'.bytes.length = 512) (hp : f'.page = f.page) :
    PoolG p d fb mb n hand m (upd fr i (some f')) w' := by
  obtain ⟨F, hF, h4, h5⟩ := h.map
  obtain ⟨hin, _, _, hq⟩ := h.at_ i f hi
  have hpg : ∀ j g, upd fr i (some f') j = some g → ∃ g', fr j = some g' ∧ g'.page = g.page := by
    intro j g hg
    by_cases hj : j = i
    · subst hj; rw [upd_same] at hg; cases hg; exact ⟨f, hi, hp.symm⟩
    · rw [upd_other _ _ hj] at hg; exact ⟨g, hg, rfl⟩
  refine ⟨(hk.block p h.lt h.pf).trans h.blk, h.n1, h.n2, h.hand_, there_touch h.room ht, fun j => (ht.froz j).trans (h.froz j), fun j g hg => ?_, fun a b x y hx hy hxy => ?_, ⟨F, hF.block (hk.block mb h.ltM (fun e => h.fm e.symm)), fun j g hg => ?_, fun q v hv => ?_⟩, h.pf, h.pm, h.fm⟩
  · by_cases hj : j = i
    · subst hj; rw [upd_same] at hg; cases hg; exact ⟨hin, hf, hb, hp ▸ hq⟩
    · rw [upd_other _ _ hj] at hg
      obtain ⟨a, b, c, d'⟩ := h.at_ j g hg
      refine ⟨a, rangeAt_touch b ht ?_, c, d'⟩
      rw [Fr.cells_length, c]
      have : j < i ∨ i < j := by omega
      rcases this with hlt | hlt
      · left; have := Nat.mul_le_mul_right 516 (show j + 1 ≤ i from hlt); omega
      · right; have := Nat.mul_le_mul_right 516 (show i + 1 ≤ j from hlt); omega
  · obtain ⟨x', hx', ex⟩ := hpg a x hx
    obtain ⟨y', hy', ey⟩ := hpg b y hy
    exact h.one a b x' y' hx' hy' (by rw [ex, ey, hxy])
  · obtain ⟨g', hg', eg⟩ := hpg j g hg
    rw [← eg]; exact h4 j g' hg'
  · obtain ⟨j, g, hg, e1, e2⟩ := h5 q v hv
    by_cases hj : j = i
    · subst hj
      rw [hi] at hg; cases hg
      exact ⟨j, f', upd_same _ _ _, by rw [hp]; exact e1, e2⟩
    · exact ⟨j, g, by rw [upd_other _ _ hj]; exact hg, e1, e2⟩

theorem PoolG.look (h : PoolG p d fb mb n hand m fr w) {i : Nat} {f : Fr} (hi : fr i = some f) : (Instr.lookup 170 (.map (some mb)) (.int .i64 f.page) false).run Tryz.prog w = .ok (ptrFr fb i) w := by
  obtain ⟨F, hF, h4, _⟩ := h.map
  have := hF.look Tryz.underlying170 (by kernel_rfl) f.page (WalkArith.wf_i64 (by have := (h.at_ i f hi).2.2.2; omega))
  rw [this, h4 i f hi]; rfl
theorem PoolG.look_none (h : PoolG p d fb mb n hand m fr w) (q : Int) (hq : (Lit.int .i64 q).wf = true) (hn : ∀ i f, fr i = some f → (f.page : Int) ≠ q) : (Instr.lookup 170 (.map (some mb)) (.int .i64 q) false).run Tryz.prog w = .ok (.pointer none) w := by
  obtain ⟨F, hF, _, h5⟩ := h.map
  have := hF.look Tryz.underlying170 (by kernel_rfl) q hq
  rw [this]
  cases hv : F q with
  | none => rfl
  | some v =>
    obtain ⟨i, f, hi, e, _⟩ := h5 q v hv
    exact absurd e (hn i f hi)
end

set_option maxHeartbeats 800000 in
theorem pinned_yes (p d fb mb n hand m i : Nat) (fr : Nat → Option Fr) (f : Fr) (w : World) (h : PoolG p d fb mb n hand m fr w) (hi : fr i = some f) (hp : 0 < f.pins) :
    Calls Tryz.prog 122 #[.pointer (some ⟨p, 0, none⟩), .int .i64 f.page] w fun e w' => e = .returned (.tuple #[ptrFr fb i, .int .i64 0]) ∧ w' = w := by
  have HG := Lib.hid (pgiven_self p w h.c0)
  have hc := h.c3
  have hl := h.look hi
  have hpc := (h.at_ i f hi).2.1.pins
  obtain ⟨o, ho⟩ : ∃ o, o = i * 516 := ⟨_, rfl⟩
  obtain ⟨q, hq⟩ : ∃ q, q = f.page := ⟨_, rfl⟩
  obtain ⟨k, hk⟩ : ∃ k, k = f.pins := ⟨_, rfl⟩
  unfold ptrFr at hl ⊢
  rw [← ho] at hl hpc ⊢
  rw [← hq] at hl ⊢
  rw [← hk] at hpc hp
  clear ho hq hk h
  have hp' : (0 : Int) < k := by omega
  go_enter Tryz.func122, Tryz.ntmps122
  go_wp2_with fail
  refine HG.out.mono ?_
  rintro e w' ⟨rfl, hw⟩
  subst w'
  go_wp2
  go_ret2
  exact ⟨rfl, rfl⟩

end Go.Proofs.YtefddiikdamnbaaGreatDoor

/- The contracts of a pool's Pins, Read, Unpin, Write. -/
set_option maxRecDepth 100000
namespace Go.Proofs.YtefddiikdamnbaaGreatDoor
open Go.RowKit

def NoPool (v : Value) (w : World) : Prop := Calls Tryz.prog 121 #[v] w fun e w' => e = .returned (.bool false) ∧ w' = w

set_option maxHeartbeats 800000 in
theorem pread_yes (p d fb mb n hand m i : Nat) (fr : Nat → Option Fr) (f : Fr) (w : World) (h : PoolG p d fb mb n hand m fr w) (hi : fr i = some f) (hp : 0 < f.pins) :
    Calls Tryz.prog 108 #[.pointer (some ⟨p, 0, none⟩), .int .i64 f.page] w fun e w' => e = .returned (.tuple #[.string ⟨f.bytes.toArray⟩, .int .i64 0]) ∧ w' = w := by
  have HP := Lib.hid (pinned_yes p d fb mb n hand m i fr f w h hi hp)
  obtain ⟨_, hf, hb, _⟩ := h.at_ i f hi
  unfold ptrFr at HP
  obtain ⟨o, ho⟩ : ∃ o, o = i * 516 := ⟨_, rfl⟩
  rw [← ho] at hf HP
  have hcv := run_string_mid w fb (o + 4) 512 f.bytes hf.bytes
  rw [hb] at hcv
  obtain ⟨s, hs⟩ : ∃ s : ByteArray, s = ⟨f.bytes.toArray⟩ := ⟨_, rfl⟩
  rw [← hs] at hcv ⊢
  clear ho h hi hp hf hb hs
  go_enter Tryz.func108, Tryz.ntmps108
  go_wp2_with fail
  refine HP.out.mono ?_
  rintro e w' ⟨rfl, hw⟩
  subst w'
  go_wp2
  go_ret2
  exact ⟨rfl, rfl⟩

set_option maxHeartbeats 800000 in
theorem unpin_yes (p d fb mb n hand m i : Nat) (fr : Nat → Option Fr) (f : Fr) (w : World) (h : PoolG p d fb mb n hand m fr w) (hi : fr i = some f) (hp : 0 < f.pins) (hp2 : f.pins ≤ 4611686018427387904) :
    Calls Tryz.prog 109 #[.pointer (some ⟨p, 0, none⟩), .int .i64 f.page] w fun e w' => e = .returned (.int .i64 0) ∧ FrAt w' fb (i * 516) { f with pins := f.pins - 1 } ∧ Touch fb (i * 516) 516 w w' ∧ Kept (fun k => k = fb) w w' := by
  have HP := Lib.hid (pinned_yes p d fb mb n hand m i fr f w h hi hp)
  obtain ⟨hin, hf, hb, _⟩ := h.at_ i f hi
  unfold ptrFr at HP
  have hfr := h.froz (i * 516 + 1)
  have hpc := hf.pins
  obtain ⟨o, ho⟩ : ∃ o, o = i * 516 := ⟨_, rfl⟩
  rw [← ho] at hf HP hpc hfr ⊢
  obtain ⟨k, hk⟩ : ∃ k, f.pins = k + 1 := ⟨f.pins - 1, by omega⟩
  have hend : FrAt (w.setCell ⟨fb, o + 1, none⟩ (.int .i64 k)) fb o { f with pins := f.pins - 1 } ∧ Touch fb o 516 w (w.setCell ⟨fb, o + 1, none⟩ (.int .i64 k)) ∧ Kept (fun k => k = fb) w (w.setCell ⟨fb, o + 1, none⟩ (.int .i64 k)) := by
    have hfar : ∀ j, j ≠ 1 → (w.setCell ⟨fb, o + 1, none⟩ (.int .i64 k)).cell? ⟨fb, o + j, none⟩ = w.cell? ⟨fb, o + j, none⟩ := fun j hj => World.cell?_setCell_other _ _ _ _ (fun e => by injection e with _ e _; omega)
    refine ⟨FrAt.mk ((hfar 0 (by omega)).trans hf.page) ?_ ((hfar 2 (by omega)).trans hf.lately) ((hfar 3 (by omega)).trans hf.changed) (fun j v hv => ?_), Touch.setCell w _ (by omega) (by omega), Kept.setCell (fun k => k = fb) w (b := fb) rfl _⟩
    · rw [World.cell?_setCell_same _ _ _ hpc]
      simp [hk]
    · rw [show o + 4 + j = o + (4 + j) by omega, hfar (4 + j) (by omega), ← Nat.add_assoc]
      exact hf.bytes j v hv
  have HE := Lib.hid hend
  rw [hk] at hpc
  have hkk : (((k + 1 : Nat) : Int) - 1) = k := by omega
  have hk63 : (k : Int) ≤ 4611686018427387904 := by omega
  clear hend ho h hi hp hf hb hk hp2 hin
  go_enter Tryz.func109, Tryz.ntmps109
  go_wp2_with fail
  refine HP.out.mono ?_
  rintro e w' ⟨rfl, hw⟩
  subst w'
  go_wp2
  go_ret
  exact ⟨rfl, HE.out⟩

end Go.Proofs.YtefddiikdamnbaaGreatDoor

/- The contract of a pool's Write, where bytes are written. -/
set_option maxRecDepth 100000
namespace Go.Proofs.YtefddiikdamnbaaGreatDoor
open Go.RowKit

theorem infoU8 : (Tryz.prog.info? 5).map (·.size) = some 1 := by kernel_rfl
/-- 'f.bytes[a:]'. -/
theorem run_sliceArr (W : World) (x : Addr) (a : Nat) (ha : a ≤ 512) : (Instr.sliceAt 120 (.pointer (some x)) (some (.int .i64 a)) none none).run Tryz.prog W = .ok (.slice (some (if 512 = a then x else x.add a)) (512 - a) (512 - a)) W := by
  obtain ⟨i, hi, hs⟩ := Option.map_eq_some_iff.1 infoU8
  simp [Instr.sliceAt, run_underlying Tryz.underlying120, Instr.sureAddr, Instr.sliceBounds, Instr.sliceBound, asIntOf, sizeOf, typeInfo, hi, hs, Result.andThen]
  rw [if_pos ha]

theorem splice_nil (l : List UInt8) (a : Nat) : splice l a [] = l := by simp [splice]

set_option maxHeartbeats 1600000 in
theorem pwrite_yes (p d fb mb n hand m i a : Nat) (fr : Nat → Option Fr) (f : Fr) (s : ByteArray) (w : World) (h : PoolG p d fb mb n hand m fr w) (hi : fr i = some f) (hp : 0 < f.pins) (ha : a + s.size ≤ 512) :
    Calls Tryz.prog 161 #[.pointer (some ⟨p, 0, none⟩), .int .i64 f.page, .int .i64 a, .string s] w fun e w' => e = .returned (.int .i64 0) ∧
      FrAt w' fb (i * 516) { f with bytes := splice f.bytes a s.data.toList, changed := f.changed || decide (s.size ≠ 0) } ∧ Touch fb (i * 516) 516 w w' ∧ Kept (fun k => k = fb) w w' := by
  have HP := Lib.hid (pinned_yes p d fb mb n hand m i fr f w h hi hp)
  obtain ⟨hin, hf, hb, _⟩ := h.at_ i f hi
  unfold ptrFr at HP
  have hfr := h.froz (i * 516 + 3)
  have ht : w.there fb (i * 516) 516 := there_part h.room (by omega) (by have := Nat.mul_le_mul_right 516 (show i + 1 ≤ n from hin); omega)
  obtain ⟨o, ho⟩ : ∃ o, o = i * 516 := ⟨_, rfl⟩
  rw [← ho] at hf HP hfr ht ⊢
  have hch := hf.changed
  have he : s.data.toList.length = s.size := rfl
  have hlt : ¬ ((512 : Int) - s.size < a) := by omega
  have ha5 : a ≤ 512 := by omega
  have hsl := fun W => run_sliceArr W ⟨fb, o + 4, none⟩ a ha5
  have hfar : ∀ (W : World) (b : Bool) j, j ≠ 3 → (W.setCell ⟨fb, o + 3, none⟩ (.bool b)).cell? ⟨fb, o + j, none⟩ = W.cell? ⟨fb, o + j, none⟩ := fun W b j hj => World.cell?_setCell_other _ _ _ _ (fun e => by injection e with _ e _; omega)
  by_cases h0 : s.size = 0
  · have hnil : s.data.toList = [] := List.eq_nil_of_length_eq_zero (by rw [he, h0])
    have hte : s.toList.isEmpty = true := by rw [ByteArray.toList_eq, hnil]; rfl
    obtain ⟨ax, hax⟩ : ∃ ax, (if 512 = a then (⟨fb, o + 4, none⟩ : Addr) else (⟨fb, o + 4, none⟩ : Addr).add a) = ax := ⟨_, rfl⟩
    rw [hax] at hsl
    clear hax
    have hcp := fun (ax : Option Addr) (x y : Nat) => Lib.run_copy_empty_string (P := Tryz.prog) w 113 9 3 5 ax x y s Tryz.underlying113 (by kernel_rfl) h0
    have hend : FrAt (w.setCell ⟨fb, o + 3, none⟩ (.bool f.changed)) fb o { f with bytes := splice f.bytes a s.data.toList, changed := f.changed || decide (s.size ≠ 0) } ∧ Touch fb o 516 w (w.setCell ⟨fb, o + 3, none⟩ (.bool f.changed)) ∧ Kept (fun k => k = fb) w (w.setCell ⟨fb, o + 3, none⟩ (.bool f.changed)) := by
      rw [hnil, splice_nil, h0]
      refine ⟨FrAt.mk ((hfar w _ 0 (by omega)).trans hf.page) ((hfar w _ 1 (by omega)).trans hf.pins) ((hfar w _ 2 (by omega)).trans hf.lately) ?_ (fun j v hv => ?_), Touch.setCell w _ (by omega) (by omega), Kept.setCell (fun k => k = fb) w (b := fb) rfl _⟩
      · rw [World.cell?_setCell_same _ _ _ hch]
        simp
      · rw [show o + 4 + j = o + (4 + j) by omega, hfar w _ (4 + j) (by omega), ← Nat.add_assoc]
        exact hf.bytes j v hv
    have HE := Lib.hid hend
    clear hend ho h hi hp hf hb hin hfar he ha ht hnil
    have hs0 : (s.size : Int) ≤ 0 := by omega
    have hs1 : (512 : Int) - s.size ≤ 512 := by omega
    have HZ := Lib.hid h0; clear h0
    cases hcc : f.changed
    all_goals
      rw [hcc] at hch HE
      clear hcc
      go_enter Tryz.func161, Tryz.ntmps161
      go_wp2_with fail
      refine HP.out.mono ?_
      rintro e w' ⟨rfl, hw⟩
      subst w'
      go_wp2
      go_ret
      exact ⟨rfl, HE.out⟩
  · have hte : s.toList.isEmpty = false := by
      rw [ByteArray.toList_eq]
      cases e : s.data.toList with
      | nil => rw [e] at he; exact absurd he.symm h0
      | cons c r => rfl
    rw [if_neg (show ¬ 512 = a by omega), add_lit'] at hsl
    have hta : w.there fb (o + 4 + a) s.size := there_part ht (by omega) (by omega)
    have hcp := run_copy_string_mid w 113 9 3 5 fb (o + 4 + a) (512 - a) (512 - a) s Tryz.underlying113 (by kernel_rfl) hta (by omega)
    obtain ⟨w1, hw1⟩ : ∃ w1, w1 = w.setCells fb (o + 4 + a) (Lib.byteCells s.data.toList) := ⟨_, rfl⟩
    have hbl : (Lib.byteCells s.data.toList).length = s.size := by rw [Lib.byteCells_length, he]
    have hfar1 : ∀ j, j < 4 → w1.cell? ⟨fb, o + j, none⟩ = w.cell? ⟨fb, o + j, none⟩ := fun j hj => by
      rw [hw1]; exact World.cell?_setCells_out fb _ (o + 4 + a) w _ (fun _ _ => .inl (by show o + j < o + 4 + a; omega))
    have hch1 : w1.cell? ⟨fb, o + 3, none⟩ = some (.bool f.changed) := (hfar1 3 (by omega)).trans hch
    have hfr1 : w1.frozen? ⟨fb, o + 3, none⟩ = false := by rw [hw1, World.frozen?_setCells]; exact hfr
    have hend : FrAt (w1.setCell ⟨fb, o + 3, none⟩ (.bool true)) fb o { f with bytes := splice f.bytes a s.data.toList, changed := f.changed || decide (s.size ≠ 0) } ∧ Touch fb o 516 w (w1.setCell ⟨fb, o + 3, none⟩ (.bool true)) ∧ Kept (fun k => k = fb) w (w1.setCell ⟨fb, o + 3, none⟩ (.bool true)) := by
      refine ⟨FrAt.mk ((hfar w1 _ 0 (by omega)).trans ((hfar1 0 (by omega)).trans hf.page)) ((hfar w1 _ 1 (by omega)).trans ((hfar1 1 (by omega)).trans hf.pins)) ((hfar w1 _ 2 (by omega)).trans ((hfar1 2 (by omega)).trans hf.lately)) ?_ (fun j v hv => ?_), ?_, ?_⟩
      · rw [World.cell?_setCell_same _ _ _ hch1]
        simp [h0]
      · rw [show o + 4 + j = o + (4 + j) by omega, hfar w1 _ (4 + j) (by omega), ← Nat.add_assoc, hw1]
        exact rangeAt_splice hf.bytes a s.data.toList (by rw [he, hb]; exact ha) (by rw [he]; exact hta) j v hv
      · rw [hw1]
        exact (Touch.setCells w _ _ (by omega) (by rw [hbl]; omega)).trans (Touch.setCell _ _ (by omega) (by omega))
      · rw [hw1]
        exact (Kept.setCells (fun k => k = fb) w (fb := fb) rfl _).trans (Kept.setCell (fun k => k = fb) _ (b := fb) rfl _) (fun _ hi => .inl hi)
    have HE := Lib.hid hend
    rw [← hw1] at hcp
    have hb1 : (a : Int) < 512 := by omega
    have hca : ¬ 512 = a := by omega
    have hs1 : (512 : Int) - s.size ≤ 512 := by omega
    have hs0 : (0 : Int) < s.size := by omega
    clear hend ho h hi hp hf hb hin hfar hfar1 he ha ht hta hbl hw1 h0 hch
    cases hcc : f.changed
    all_goals
      rw [hcc] at hch1 HE
      clear hcc
      go_enter Tryz.func161, Tryz.ntmps161
      go_wp2_with fail
      refine HP.out.mono ?_
      rintro e w' ⟨rfl, hw⟩
      subst w'
      go_wp2
      go_ret
      exact ⟨rfl, HE.out⟩
end Go.Proofs.YtefddiikdamnbaaGreatDoor

/- The contract of a pool's turn: whose frame is taken next. -/
set_option maxRecDepth 100000
namespace Go.Proofs.YtefddiikdamnbaaGreatDoor
open Go.RowKit

/-- The same frames, but for their marks of being asked for lately. -/
def Late (fr fr' : Nat → Option Fr) : Prop := ∀ i, ∃ b : Bool, fr' i = (fr i).map fun f => { f with lately := b }
theorem Late.refl (fr : Nat → Option Fr) : Late fr fr := fun i => by
  cases h : fr i with
  | none => exact ⟨false, rfl⟩
  | some f => exact ⟨f.lately, rfl⟩
theorem Late.set {fr fr' : Nat → Option Fr} (h : Late fr fr') {i : Nat} {f : Fr} (hi : fr' i = some f) (b : Bool) : Late fr (upd fr' i (some { f with lately := b })) := fun j => by
  by_cases hj : j = i
  · subst hj
    obtain ⟨c, hc⟩ := h j
    rw [hi] at hc
    cases hf : fr j with
    | none => rw [hf] at hc; cases hc
    | some g =>
      rw [hf] at hc
      simp only [Option.map_some, Option.some.injEq] at hc
      subst hc
      exact ⟨b, by rw [upd_same]; rfl⟩
  · rw [upd_other _ _ hj]; exact h j

section
variable {p d fb mb n hand m : Nat} {fr : Nat → Option Fr} {w w' : World}
theorem PoolG.setHand (h : PoolG p d fb mb n hand m fr w) {k : Nat} (hk : k < n) : PoolG p d fb mb n k m fr (w.setCell ⟨p, 4, none⟩ (.int .i64 k)) := by
  have hf : (w.setCell ⟨p, 4, none⟩ (.int .i64 k)).heap[fb]? = w.heap[fb]? := Below.heap_setCell _ _ _ _ (fun e => h.pf e.symm)
  have hm : (w.setCell ⟨p, 4, none⟩ (.int .i64 k)).heap[mb]? = w.heap[mb]? := Below.heap_setCell _ _ _ _ (fun e => h.pm e.symm)
  obtain ⟨F, hF, h4, h5⟩ := h.map
  refine ⟨?_, h.n1, h.n2, hk, there_touch h.room (Touch.ofBlock (o := 0) (n := 0) hf), fun j => (World.frozen?_of_block hf).trans (h.froz j), fun i f hi => ?_, h.one, ⟨F, hF.block hm, h4, h5⟩, h.pf, h.pm, h.fm⟩
  · simp only [World.setCell, Array.getElem?_modify, if_true, h.blk, Option.map_some]
    rfl
  · obtain ⟨a, b, c⟩ := h.at_ i f hi
    exact ⟨a, fun j v hv => (World.cell?_of_block hf).trans (b j v hv), c⟩
theorem PoolG.setLate (h : PoolG p d fb mb n hand m fr w) {i : Nat} {f : Fr} (hi : fr i = some f) (b : Bool) : PoolG p d fb mb n hand m (upd fr i (some { f with lately := b })) (w.setCell ⟨fb, i * 516 + 2, none⟩ (.bool b)) := by
  obtain ⟨_, hf, hb, _⟩ := h.at_ i f hi
  have hfar : ∀ j, j ≠ 2 → (w.setCell ⟨fb, i * 516 + 2, none⟩ (.bool b)).cell? ⟨fb, i * 516 + j, none⟩ = w.cell? ⟨fb, i * 516 + j, none⟩ := fun j hj => World.cell?_setCell_other _ _ _ _ (fun e => by injection e with _ e _; omega)
  refine h.turnFr hi (Touch.setCell w _ (by omega) (by omega)) (Kept.setCell (fun k => k = fb) w (b := fb) rfl _) (FrAt.mk ((hfar 0 (by omega)).trans hf.page) ((hfar 1 (by omega)).trans hf.pins) ?_ ((hfar 3 (by omega)).trans hf.changed) (fun j v hv => ?_)) hb rfl
  · exact World.cell?_setCell_same _ _ _ hf.lately
  · rw [show i * 516 + 4 + j = i * 516 + (4 + j) by omega, hfar (4 + j) (by omega), ← Nat.add_assoc]
    exact hf.bytes j v hv
end

/-- What the hand has seen in k rounds. -/
def Seen (n hand k : Nat) (fr : Nat → Option Fr) : Prop :=
  (∀ j f, j < k → fr ((hand + j) % n) = some f → 0 < f.pins ∨ f.lately = false) ∧ ∀ j f, n ≤ j → j < k → fr ((hand + j) % n) = some f → 0 < f.pins

theorem seen_pins {n hand k : Nat} {fr : Nat → Option Fr} (h : Seen n hand k fr) {f : Fr} (hf : fr ((hand + k) % n) = some f) (hp : 0 < f.pins) : Seen n hand (k + 1) fr := by
  refine ⟨fun j g hj hg => ?_, fun j g hn hj hg => ?_⟩
  · by_cases hjk : j = k
    · subst hjk; rw [hf] at hg; cases hg; exact .inl hp
    · exact h.1 j g (by omega) hg
  · by_cases hjk : j = k
    · subst hjk; rw [hf] at hg; cases hg; exact hp
    · exact h.2 j g hn (by omega) hg
theorem seen_late {n hand k : Nat} {fr : Nat → Option Fr} (h : Seen n hand k fr) (hn : 1 ≤ n) {f : Fr} (hf : fr ((hand + k) % n) = some f) (hl : f.lately = true) (hp : f.pins = 0) : k < n ∧ Seen n hand (k + 1) (upd fr ((hand + k) % n) (some { f with lately := false })) := by
  have hkn : k < n := by
    by_cases hk : k < n
    · exact hk
    · exfalso
      have e : (hand + (k - n)) % n = (hand + k) % n := by
        have := Nat.add_mod_right (hand + (k - n)) n
        rw [← this]; congr 1; omega
      rcases h.1 (k - n) f (by omega) (by rw [e]; exact hf) with h1 | h1
      · omega
      · rw [hl] at h1; cases h1
  refine ⟨hkn, fun j g hj hg => ?_, fun j g hn hj _ => by omega⟩
  by_cases he : (hand + j) % n = (hand + k) % n
  · rw [he, upd_same] at hg; cases hg; exact .inr rfl
  · rw [upd_other _ _ he] at hg
    exact h.1 j g (by
      by_cases hjk : j = k
      · subst hjk; exact absurd rfl he
      · omega) hg
theorem seen_all {n hand : Nat} {fr : Nat → Option Fr} (h : Seen n hand (2 * n) fr) (hh : hand < n) : ∀ i f, i < n → fr i = some f → 0 < f.pins := by
  intro i f hi hf
  obtain ⟨j, hj1, hj2, hj⟩ : ∃ j, n ≤ j ∧ j < 2 * n ∧ (hand + j) % n = i := by
    by_cases hc : hand ≤ i
    · exact ⟨n + (i - hand), by omega, by omega, by rw [show hand + (n + (i - hand)) = i + n by omega, Nat.add_mod_right, Nat.mod_eq_of_lt hi]⟩
    · exact ⟨n + (i + n - hand), by omega, by omega, by rw [show hand + (n + (i + n - hand)) = i + n + n by omega, Nat.add_mod_right, Nat.add_mod_right, Nat.mod_eq_of_lt hi]⟩
  exact h.2 j f hj1 hj2 (by rw [hj]; exact hf)

def TurnPost (p d fb mb n m : Nat) (fr : Nat → Option Fr) (w : World) (e : Ending) (w' : World) : Prop :=
  ∃ hand' fr', PoolG p d fb mb n hand' m fr' w' ∧ Late fr fr' ∧ Kept (fun k => k = p ∨ k = fb) w w' ∧
    (e = .returned (.pointer none) ∧ (∀ i f, i < n → fr' i = some f → 0 < f.pins) ∨ ∃ i f, i < n ∧ fr' i = some f ∧ f.pins = 0 ∧ e = .returned (ptrFr fb i))

set_option maxHeartbeats 1600000 in
theorem turn_any (p d fb mb n hand m : Nat) (fr : Nat → Option Fr) (w : World) (h : PoolG p d fb mb n hand m fr w) (hall : ∀ i, i < n → ∃ f, fr i = some f) :
    Calls Tryz.prog 217 #[.pointer (some ⟨p, 0, none⟩)] w (TurnPost p d fb mb n m fr w) := by
  have hc2 := h.c2
  have hn1 := h.n1
  have hn2 := h.n2
  have hh := h.hand_
  have HH := Lib.hid h; clear h
  have HA := Lib.hid hall; clear hall
  go_enter Tryz.func217, Tryz.ntmps217
  go_wp2
  go_loopw [10] (fun i wr => ∃ (k hd : Nat) (fr' : Nat → Option Fr), k ≤ 2 * n ∧ i = .int .i64 k ∧ Hid (hd = (hand + k) % n) ∧ Hid (PoolG p d fb mb n hd m fr' wr) ∧ Hid (Late fr fr') ∧ Hid (Seen n hand k fr') ∧ Hid (Kept (fun k => k = p ∨ k = fb) w wr)) (fun i _ => 2 * n - (intOf i).toNat)
  case atStart => exact ⟨0, hand, fr, by omega, rfl, Lib.hid (by rw [Nat.add_zero, Nat.mod_eq_of_lt hh]), HH, Lib.hid (Late.refl _), Lib.hid ⟨fun j f hj => by omega, fun j f _ hj => by omega⟩, Lib.hid (Kept.refl _ _)⟩
  case round =>
    obtain ⟨k, hd, fr', hk, rfl, HD, HG, HL, HS, HK⟩ := hrel
    by_cases hlt : k < 2 * n
    · have hdn : hd < n := HG.out.hand_
      obtain ⟨f, hf⟩ : ∃ f, fr' hd = some f := by
        obtain ⟨g, hg⟩ := HA.out hd hdn
        obtain ⟨b, hb⟩ := HL.out hd
        rw [hg] at hb
        exact ⟨_, hb⟩
      have g2 := HG.out.c2
      have g4 := HG.out.c4
      have gz : wr.frozen? ⟨p, 4, none⟩ = false := Lib.frozen_of_heap HG.out.blk 4
      have h1n : (1 : Int) ≤ n := by omega
      have hdi : (0 : Int) ≤ hd := by omega
      have hdj : (hd : Int) < n := by omega
      have hwr : IntKind.i64.wrap ((hd : Int) + 1) = (hd : Int) + 1 := IntWalk.i64_in _ (by omega)
      have hn0 : ¬ n = 0 := by omega
      obtain ⟨r, hr⟩ : ∃ r : Nat, (hd + 1) % n = r := ⟨_, rfl⟩
      have hrn : r < n := by rw [← hr]; exact Nat.mod_lt _ (by omega)
      have hmod : ((hd : Int) + 1).tmod (n : Int) = (r : Int) := by
        rw [Int.tmod_eq_emod_of_nonneg (by omega), ← hr]
        exact (Int.natCast_emod (hd + 1) n).symm
      have HR := Lib.hid hr; clear hr
      go_wp2
      go_quiet (fail)
      obtain ⟨W, hW⟩ : ∃ W, W = wr.drewN nq := ⟨_, rfl⟩
      rw [← hW]
      have hG : PoolG p d fb mb n hd m fr' W := by rw [hW]; exact HG.out.block rfl rfl rfl
      have hK : Kept (fun k => k = p ∨ k = fb) w W := by rw [hW]; exact HK.out.trans (Kept.ofBelow (S := fun k => k = p ∨ k = fb) ⟨rfl, rfl, rfl, Nat.le_refl _, fun _ _ => rfl⟩) (fun _ hi => .inl hi)
      clear g2 g4 gz HG HK hW
      have HK := Lib.hid hK; clear hK
      have HG := Lib.hid hG; clear hG
      have g2 := HG.out.c2
      have g4 := HG.out.c4
      have gz : W.frozen? ⟨p, 4, none⟩ = false := Lib.frozen_of_heap HG.out.blk 4
      have hpf : ¬ p = fb := HG.out.pf
      have hfp : ¬ fb = p := fun e => hpf e.symm
      have hF := (HG.out.at_ hd f hf).2.1
      have p1 := hF.pins
      have p2 := hF.lately
      have pz := HG.out.froz (hd * 516 + 2)
      have HF := Lib.hid hF; clear hF
      have HFF := Lib.hid hf; clear hf
      have H2 : Hid (PoolG p d fb mb n r m fr' (W.drew.setCell ⟨p, 4, none⟩ (.int .i64 r))) := Lib.hid (PoolG.setHand (HG.out.block (w' := W.drew) rfl rfl rfl) hrn)
      have HK2 : Hid (Kept (fun k => k = p ∨ k = fb) w (W.drew.setCell ⟨p, 4, none⟩ (.int .i64 r))) := Lib.hid ((HK.out.trans (Kept.ofBelow (S := fun k => k = p ∨ k = fb) (b := W.drew) ⟨rfl, rfl, rfl, Nat.le_refl _, fun _ _ => rfl⟩) (fun _ hi => .inl hi)).trans (Kept.setCell (fun k => k = p ∨ k = fb) W.drew (b := p) (.inl rfl) _) (fun _ hi => .inl hi))
      have hrk : r = (hand + (k + 1)) % n := by rw [← HR.out, HD.out, Nat.mod_add_mod, Nat.add_assoc]
      have HRK := Lib.hid hrk; clear hrk
      obtain ⟨pn, hpn⟩ : ∃ pn, pn = f.pins := ⟨_, rfl⟩
      obtain ⟨lt, hlt'⟩ : ∃ lt, lt = f.lately := ⟨_, rfl⟩
      rw [← hpn] at p1
      rw [← hlt'] at p2
      have HPN := Lib.hid hpn; clear hpn
      have HLT := Lib.hid hlt'; clear hlt'
      by_cases hp0 : pn = 0
      · subst hp0
        cases lt
        · go_wp2
          go_still_tail 14, (by kernel_rfl)
          go_wp2
          go_ret
          exact ⟨r, fr', H2.out, HL.out, HK2.out, .inr ⟨hd, f, hdn, HFF.out, HPN.out.symm, rfl⟩⟩
        · go_wp2
          go_still_tail 14, (by kernel_rfl)
          go_wp2
          have hs := seen_late HS.out hn1 (HD.out ▸ HFF.out) HLT.out.symm HPN.out.symm
          rw [← HD.out] at hs
          have HS2 := Lib.hid hs.2; clear hs
          have HL2 := Lib.hid (HL.out.set HFF.out false)
          have H3 := Lib.hid (H2.out.setLate HFF.out false)
          have HK3 := Lib.hid (HK2.out.trans (Kept.setCell (fun k => k = p ∨ k = fb) (W.drew.setCell ⟨p, 4, none⟩ (.int .i64 r)) (b := fb) (i := hd * 516 + 2) (.inr rfl) (.bool false)) (fun _ hi => .inl hi))
          go_roundw
          case rel => exact ⟨k + 1, r, _, by omega, by go_num, HRK, H3, HL2, HS2, HK3⟩
          case measure => simp [intOf]; omega
      · have hp1 : (0 : Int) < pn := by omega
        go_wp2
        go_still_tail 14, (by kernel_rfl)
        go_wp2
        have hs := seen_pins HS.out (HD.out ▸ HFF.out) (by rw [← HPN.out]; omega)
        have HS2 := Lib.hid hs; clear hs
        go_roundw
        case rel => exact ⟨k + 1, r, fr', by omega, by go_num, HRK, H2, HL, HS2, HK2⟩
        case measure => simp [intOf]; omega
    · have hk2 : k = 2 * n := by omega
      subst hk2
      go_wp2
      go_ret
      exact ⟨hd, fr', HG.out, HL.out, HK.out, .inl ⟨rfl, seen_all HS.out hh⟩⟩
end Go.Proofs.YtefddiikdamnbaaGreatDoor

/- The contract of a pool's spare: a frame that no page needs. -/
set_option maxRecDepth 100000
namespace Go.Proofs.YtefddiikdamnbaaGreatDoor
open Go.RowKit

section
variable {P : Program} {w w' : World} {ops : Array Oper} {rest : List Oper} {o : Oper} {a : Act} {Q : Exit → Act → World → Prop}
theorem wpList_delete_run (hg : o.guard = none) (m x : Operand) (t k : TypeId) (hop : o.op = Op.call { callee := Callee.builtin Builtin.delete, args := #[m, x], argTypes := #[t, k] })
    (mv xv : Value) (hm : a.eval m = mv) (hx : a.eval x = xv) (hr : (Builtin.delete_ #[t, k] o.type #[mv, xv]).run P w = .ok (.tuple #[]) w') (h : wpList P ops Q rest (a.put o.dst (.tuple #[])) w') :
    wpList P ops Q (o :: rest) a w := by
  refine wpList_plain hg fun K' hK' => ?_
  unfold Oper.wp
  simp [execOp, hop, resolve, invoke, builtin, hm, hx, hr, Result.andThen]
  exact hK' _ _ h
theorem wpList_len_run (hg : o.guard = none) (m : Operand) (t : TypeId) (hop : o.op = Op.call { callee := Callee.builtin Builtin.len, args := #[m], argTypes := #[t] })
    (mv v : Value) (hm : a.eval m = mv) (hr : (Builtin.len_ #[t] o.type #[mv]).run P w = .ok v w) (h : wpList P ops Q rest (a.put o.dst v) w) :
    wpList P ops Q (o :: rest) a w := by
  refine wpList_plain hg fun K' hK' => ?_
  unfold Oper.wp
  simp [execOp, hop, resolve, invoke, builtin, hm, hr, Result.andThen]
  exact hK' _ _ h
theorem wpList_mapUpdate_run (hg : o.guard = none) (m x v : Operand) (t : TypeId) (hop : o.op = Op.mapUpdate t m x v)
    (mv xv vv : Value) (hm : a.eval m = mv) (hx : a.eval x = xv) (hv : a.eval v = vv) (hr : (Instr.mapUpdate t mv xv vv).run P w = .ok () w') (h : wpList P ops Q rest (a.put o.dst undef) w') :
    wpList P ops Q (o :: rest) a w := by
  refine wpList_plain hg fun K' hK' => ?_
  unfold Oper.wp
  simp [execOp, hop, hm, hx, hv, hr, Result.andThen]
  exact hK' _ _ h
end

/-- The first m frames hold pages, the others none. -/
def Filled (n m : Nat) (fr : Nat → Option Fr) : Prop := m ≤ n ∧ ∀ i, i < m ↔ ∃ f, fr i = some f

section
variable {p d fb mb n hand m : Nat} {fr : Nat → Option Fr} {w : World}
theorem PoolG.remove (h : PoolG p d fb mb n hand (m + 1) fr w) {i : Nat} {f : Fr} (hi : fr i = some f) (ty : TypeId) :
    ∃ w', (Builtin.delete_ #[170, 3] ty #[.map (some mb), .int .i64 f.page]).run Tryz.prog w = .ok (.tuple #[]) w' ∧ PoolG p d fb mb n hand m (upd fr i none) w' ∧ Kept (fun k => k = mb) w w' := by
  obtain ⟨F, hF, h4, h5⟩ := h.map
  obtain ⟨w', hr, hF', ht⟩ := hF.del Tryz.underlying170 f.page (WalkArith.wf_i64 (by have := (h.at_ i f hi).2.2.2; omega)) (h4 i f hi) ty
  have hk := Kept.ofTurned (S := fun k => k = mb) ht rfl
  have e1 := hk.block p h.lt h.pm
  have e2 := hk.block fb h.ltF h.fm
  have hup : ∀ j g, upd fr i none j = some g → j ≠ i ∧ fr j = some g := fun j g hg => by
    by_cases hj : j = i
    · subst hj; rw [upd_same] at hg; cases hg
    · rw [upd_other _ _ hj] at hg; exact ⟨hj, hg⟩
  refine ⟨w', hr, ⟨e1.trans h.blk, h.n1, h.n2, h.hand_, there_touch h.room (Touch.ofBlock (o := 0) (n := 0) e2), fun j => (World.frozen?_of_block e2).trans (h.froz j), fun j g hg => ?_, fun a b x y hx hy => h.one a b x y (hup a x hx).2 (hup b y hy).2, ⟨_, hF', fun j g hg => ?_, fun q v hv => ?_⟩, h.pf, h.pm, h.fm⟩, hk⟩
  · obtain ⟨a, b, c⟩ := h.at_ j g (hup j g hg).2
    exact ⟨a, fun j v hv => (World.cell?_of_block e2).trans (b j v hv), c⟩
  · obtain ⟨hj, hg'⟩ := hup j g hg
    rw [updI_other _ _ (fun e => hj (h.one j i g f hg' hi (by omega)))]
    exact h4 j g hg'
  · by_cases hq : q = f.page
    · subst hq; rw [updI_same] at hv; cases hv
    · rw [updI_other _ _ hq] at hv
      obtain ⟨j, g, hg, e3, e4⟩ := h5 q v hv
      refine ⟨j, g, ?_, e3, e4⟩
      rw [upd_other _ _ (fun e => ?_)]
      · exact hg
      · subst e; rw [hi] at hg; cases hg; exact hq e3.symm

theorem PoolG.insert (h : PoolG p d fb mb n hand m fr w) {i : Nat} {g : Fr} (hin : i < n) (hi : fr i = none) (hm : m ≤ n) (hq : g.page < 4096) (hno : ∀ j f, fr j = some f → f.page ≠ g.page) (hg : FrAt w fb (i * 516) g) (hb : g.bytes.length = 512) :
    ∃ w', (Instr.mapUpdate 170 (.map (some mb)) (.int .i64 g.page) (ptrFr fb i)).run Tryz.prog w = .ok () w' ∧ PoolG p d fb mb n hand (m + 1) (upd fr i (some g)) w' ∧ Kept (fun k => k = mb) w w' := by
  obtain ⟨F, hF, h4, h5⟩ := h.map
  have hnone : F g.page = none := by
    cases hv : F g.page with
    | none => rfl
    | some v =>
      obtain ⟨j, f, hj, e, _⟩ := h5 _ v hv
      exact absurd (by omega) (hno j f hj)
  obtain ⟨w', hr, hF', ht⟩ := hF.put Tryz.underlying170 (by have := h.n2; unfold maxLen; omega) g.page (WalkArith.wf_i64 (by omega)) hnone (ptrFr fb i)
  have hk := Kept.ofTurned (S := fun k => k = mb) ht rfl
  have e1 := hk.block p h.lt h.pm
  have e2 := hk.block fb h.ltF h.fm
  refine ⟨w', hr, ⟨e1.trans h.blk, h.n1, h.n2, h.hand_, there_touch h.room (Touch.ofBlock (o := 0) (n := 0) e2), fun j => (World.frozen?_of_block e2).trans (h.froz j), fun j x hx => ?_, fun a b x y hx hy hxy => ?_, ⟨_, hF', fun j x hx => ?_, fun q v hv => ?_⟩, h.pf, h.pm, h.fm⟩, hk⟩
  · by_cases hj : j = i
    · subst hj; rw [upd_same] at hx; cases hx
      exact ⟨hin, fun j v hv => (World.cell?_of_block e2).trans (hg j v hv), hb, hq⟩
    · rw [upd_other _ _ hj] at hx
      obtain ⟨a, b, c⟩ := h.at_ j x hx
      exact ⟨a, fun j v hv => (World.cell?_of_block e2).trans (b j v hv), c⟩
  · by_cases ha : a = i
    · by_cases hb' : b = i
      · rw [ha, hb']
      · subst ha; rw [upd_same] at hx; cases hx
        rw [upd_other _ _ hb'] at hy
        exact absurd hxy.symm (hno b y hy)
    · by_cases hb' : b = i
      · subst hb'; rw [upd_same] at hy; cases hy
        rw [upd_other _ _ ha] at hx
        exact absurd hxy (hno a x hx)
      · rw [upd_other _ _ ha] at hx
        rw [upd_other _ _ hb'] at hy
        exact h.one a b x y hx hy hxy
  · by_cases hj : j = i
    · subst hj; rw [upd_same] at hx; cases hx
      exact updI_same _ _ _
    · rw [upd_other _ _ hj] at hx
      rw [updI_other _ _ (fun e => hno j x hx (by omega))]
      exact h4 j x hx
  · by_cases hq' : q = g.page
    · subst hq'; rw [updI_same] at hv; cases hv
      exact ⟨i, g, upd_same _ _ _, rfl, rfl⟩
    · rw [updI_other _ _ hq'] at hv
      obtain ⟨j, x, hx, e3, e4⟩ := h5 q v hv
      refine ⟨j, x, ?_, e3, e4⟩
      rw [upd_other _ _ (fun e => ?_)]
      · exact hx
      · subst e; rw [hi] at hx; cases hx

theorem PoolG.len (h : PoolG p d fb mb n hand m fr w) (ty : TypeId) : (Builtin.len_ #[170] ty #[.map (some mb)]).run Tryz.prog w = .ok (.int .i64 m) w := by
  obtain ⟨F, hF, _⟩ := h.map
  exact hF.len Tryz.underlying170 ty
end

set_option maxHeartbeats 800000 in
theorem spare_free (p d fb mb n hand m : Nat) (fr : Nat → Option Fr) (w : World) (h : PoolG p d fb mb n hand m fr w) (hm : m < n) :
    Calls Tryz.prog 163 #[.pointer (some ⟨p, 0, none⟩)] w fun e w' => e = .returned (ptrFr fb m) ∧ w' = w := by
  have hc2 := h.c2
  have hc3 := h.c3
  have hl := h.len 3
  have hn2 := h.n2
  have hmn : (m : Int) < n := by omega
  have hm0 : (0 : Int) ≤ m := by omega
  clear h
  unfold ptrFr
  go_enter Tryz.func163, Tryz.ntmps163
  go_wp2_with (refine wpList_len_run rfl _ 170 rfl (.map (some mb)) _ (by rfl) hl ?_)
  go_ret
  exact ⟨rfl, rfl⟩

/-- What has been written to the disk, where a changed frame was saved. -/
def saved (f : Fr) (ops : List RawOp) : List RawOp := if f.changed then ops ++ [.put 1 (f.page * 512) ⟨f.bytes.toArray⟩] else ops

def SparePost (S : Nat → Prop) (p d fb mb n m : Nat) (fr : Nat → Option Fr) (ops : List RawOp) (w : World) (e : Ending) (w' : World) : Prop :=
  ∃ hand' fr', Late fr fr' ∧ (e = .returned (.pointer none) ∧ PoolG p d fb mb n hand' m fr' w' ∧ (∀ i f, i < n → fr' i = some f → 0 < f.pins) ∧ Kept (fun k => k = p ∨ k = fb) w w' ∨
    ∃ i f S', i < n ∧ fr' i = some f ∧ f.pins = 0 ∧ e = .returned (ptrFr fb i) ∧ PoolG p d fb mb n hand' (m - 1) (upd fr' i none) w' ∧ DiskAt S' d (saved f ops) w' ∧ Kept (fun k => S k ∨ k = p ∨ k = fb ∨ k = mb) w w' ∧ ∀ k, S' k → S k ∨ w.heap.size ≤ k)

set_option maxHeartbeats 1600000 in
theorem spare_full (p d fb mb n hand m : Nat) (fr : Nat → Option Fr) (S : Nat → Prop) (ops : List RawOp) (w : World) (h : PoolG p d fb mb n hand m fr w) (hF : Filled n m fr) (hm : m = n) (hd : DiskAt S d ops w) (hlen : ops.length ≤ 4398046511104)
    (h1 : ¬ S p) (h2 : ¬ S fb) (h3 : ¬ S mb) :
    Calls Tryz.prog 163 #[.pointer (some ⟨p, 0, none⟩)] w (SparePost S p d fb mb n m fr ops w) := by
  have hc2 := h.c2
  have hc3 := h.c3
  have hl := h.len 3
  have hn1 := h.n1
  have hmn : ¬ ((m : Int) < n) := by omega
  have HT := Lib.hid (turn_any p d fb mb n hand m fr w h (fun i hi => (hF.2 i).1 (by omega)))
  have HF := Lib.hid hF; clear hF
  have HD := Lib.hid hd; clear hd
  have HS := Lib.hid (show ¬ S p ∧ ¬ S fb ∧ ¬ S mb from ⟨h1, h2, h3⟩); clear h1 h2 h3
  have HM := Lib.hid hm; clear hm
  have HML := Lib.hid h.ltM
  clear h
  go_enter Tryz.func163, Tryz.ntmps163
  go_wp2_with (refine wpList_len_run rfl _ 170 rfl (.map (some mb)) _ (by rfl) hl ?_)
  refine HT.out.mono ?_
  rintro e w1 ⟨hand', fr', hG, hL, hK, he⟩
  have HL := Lib.hid hL; clear hL
  have HG := Lib.hid hG; clear hG
  have HK := Lib.hid hK; clear hK
  rcases he with ⟨rfl, ha⟩ | ⟨i, f, hi, hf, hp, rfl⟩
  · have HA := Lib.hid ha; clear ha
    go_wp2
    go_ret
    exact ⟨hand', fr', HL.out, .inl ⟨rfl, HG.out, HA.out, HK.out⟩⟩
  · unfold ptrFr
    have c1 := HG.out.c1
    obtain ⟨_, hFr, hfb, hfq⟩ := HG.out.at_ i f hf
    have hd1 : DiskAt S d ops w1 := HD.out.kept HK.out (fun k _ hs e => by rcases e with rfl | rfl; exact HS.out.1 hs; exact HS.out.2.1 hs)
    have HSV := Lib.hid (save_any fb (i * 516) d f S ops w1 hd1 hlen hFr hfq hfb HG.out.froz HS.out.2.1)
    clear hFr hfb hfq hd1
    have HFF := Lib.hid hf; clear hf
    have HP := Lib.hid hp; clear hp
    go_wp2_with fail
    refine HSV.out.mono ?_
    rintro e w2 ⟨rfl, hs⟩
    have h2 : ∃ f', f'.page = f.page ∧ PoolG p d fb mb n hand' m (upd fr' i (some f')) w2 ∧ Kept (fun k => S k ∨ k = p ∨ k = fb ∨ k = mb) w w2 ∧ ∃ S', DiskAt S' d (saved f ops) w2 ∧ ∀ k, S' k → S k ∨ w.heap.size ≤ k := by
      have hK1 : Kept (fun k => S k ∨ k = p ∨ k = fb ∨ k = mb) w w1 := HK.out.mono (fun k hk => hk.elim (fun h => .inr (.inl h)) (fun h => .inr (.inr (.inl h))))
      rcases hs with ⟨hc, rfl⟩ | ⟨hc, w3, g1, g2, rfl⟩
      · refine ⟨f, rfl, ?_, hK1, S, ?_, fun k hk => .inl hk⟩
        · have : upd fr' i (some f) = fr' := by
            funext j
            by_cases hj : j = i
            · subst hj; rw [upd_same]; exact HFF.out.symm
            · rw [upd_other _ _ hj]
          rw [this]; exact HG.out
        · rw [saved, hc]
          exact HD.out.kept HK.out (fun k _ hs e => by rcases e with rfl | rfl; exact HS.out.1 hs; exact HS.out.2.1 hs)
      · have hG3 := HG.out.kept g2 HS.out.1 HS.out.2.1 HS.out.2.2
        obtain ⟨_, hFr, hfb, _⟩ := hG3.at_ i f HFF.out
        have hfar : ∀ j, j ≠ 3 → (w3.setCell ⟨fb, i * 516 + 3, none⟩ (.bool false)).cell? ⟨fb, i * 516 + j, none⟩ = w3.cell? ⟨fb, i * 516 + j, none⟩ := fun j hj => World.cell?_setCell_other _ _ _ _ (fun e => by injection e with _ e _; omega)
        refine ⟨{ f with changed := false }, rfl, ?_, ?_, More S w1.heap.size, ?_, ?_⟩
        · refine hG3.turnFr HFF.out (Touch.setCell w3 _ (by omega) (by omega)) (Kept.setCell (fun k => k = fb) w3 (b := fb) rfl _) (FrAt.mk ((hfar 0 (by omega)).trans hFr.page) ((hfar 1 (by omega)).trans hFr.pins) ((hfar 2 (by omega)).trans hFr.lately) ?_ (fun j v hv => ?_)) hfb rfl
          · exact World.cell?_setCell_same _ _ _ hFr.changed
          · rw [show i * 516 + 4 + j = i * 516 + (4 + j) by omega, hfar (4 + j) (by omega), ← Nat.add_assoc]
            exact hFr.bytes j v hv
        · exact (hK1.trans g2 (fun k hk => .inl (.inl hk))).trans (Kept.setCell (fun k => k = fb) w3 (b := fb) rfl _) (fun k hk => .inl (.inr (.inr (.inl hk))))
        · rw [saved, if_pos hc]
          refine g1.kept (Kept.setCell (fun k => k = fb) w3 (b := fb) rfl _) (fun k _ hs e => ?_)
          subst e
          rcases hs with hs | hs
          · exact HS.out.2.1 hs
          · have := HG.out.ltF; omega
        · rintro k (hk | hk)
          · exact .inl hk
          · have := HK.out.size; exact .inr (by omega)
    clear hs
    obtain ⟨f', hpg, hG2, hK2, S', hD2, hS2⟩ := h2
    have hu : upd fr' i (some f') i = some f' := upd_same _ _ _
    obtain ⟨_, hFr, _, hfq⟩ := hG2.at_ i f' hu
    have d3 := hG2.c3
    have p0 := hFr.page
    obtain ⟨m0, hm0⟩ : ∃ m0, m = m0 + 1 := ⟨m - 1, by have := HM.out; omega⟩
    have hG3 : PoolG p d fb mb n hand' (m0 + 1) (upd fr' i (some f')) w2.drew := by rw [← hm0]; exact hG2.block rfl rfl rfl
    obtain ⟨w4, hr, hG4, hK4⟩ := hG3.remove hu 0
    rw [hpg] at hr p0
    obtain ⟨q, hq⟩ : ∃ q, q = f.page := ⟨_, rfl⟩
    rw [← hq] at p0 hr
    have hend : SparePost S p d fb mb n m fr ops w (.returned (ptrFr fb i)) w4 := by
      refine ⟨hand', fr', HL.out, .inr ⟨i, f, S', hi, HFF.out, HP.out, rfl, ?_, ?_, ?_, hS2⟩⟩
      · have : upd (upd fr' i (some f')) i none = upd fr' i none := by
          funext j
          by_cases hj : j = i
          · subst hj; rw [upd_same, upd_same]
          · rw [upd_other _ _ hj, upd_other _ _ hj, upd_other _ _ hj]
        rw [this] at hG4
        rw [hm0]; exact hG4
      · refine (hD2.below (w' := w2.drew) ⟨rfl, rfl, rfl, Nat.le_refl _, fun _ _ => rfl⟩).kept hK4 (fun k _ hs e => ?_)
        subst e
        rcases hS2 _ hs with h | h
        · exact HS.out.2.2 h
        · have := HML.out
          omega
      · exact (hK2.trans (Kept.ofBelow (S := fun _ => False) (b := w2.drew) ⟨rfl, rfl, rfl, Nat.le_refl _, fun _ _ => rfl⟩) (fun _ h => h.elim)).trans hK4 (fun k hk => .inl (.inr (.inr (.inr hk))))
    have HE := Lib.hid hend
    unfold ptrFr at HE
    clear hend hG2 hK2 hD2 hS2 hu hFr hfq hG3 hG4 hK4 hpg hm0 hq
    go_wp2
    go_still_tail 8, (by kernel_rfl)
    go_wp2_with (refine wpList_delete_run rfl _ _ 170 3 rfl _ _ (by rfl) (by rfl) hr ?_)
    go_ret
    exact HE.out
end Go.Proofs.YtefddiikdamnbaaGreatDoor
