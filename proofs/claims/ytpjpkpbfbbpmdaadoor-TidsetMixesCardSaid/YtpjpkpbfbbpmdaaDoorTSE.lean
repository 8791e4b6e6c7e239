/- A set's given, New, at, put. -/
import Derived.Test.YtpjpkpbfbbpmdaaDoorTSD
set_option maxRecDepth 100000
namespace Go.Proofs.YtpjpkpbfbbpmdaaDoor.Ts
open Go.RowKit Go.Maps

theorem sizeTset : (Tryd.prog.info? 45).map (·.size) = some 5 := by kernel_rfl
theorem eql_nil_ts (w : World) (a : Addr) : (binOp .eql 25 (.pointer none) (.pointer (some a))).run Tryd.prog w = .ok (.bool false) w := by
  have h : ∀ d : Nat, (Op.equalIn (d + 1) 25 (.pointer none) (.pointer (some a))).run Tryd.prog w = .ok false w := fun d => by
    simp [Op.equalIn, run_underlying Tryd.underlying25, sizeOf, typeInfo]
  simp only [binOp]
  simp [Op.equal, Op.maxDepth, h 9999]

set_option maxHeartbeats 400000 in
theorem given_nil (w : World) : Calls Tryd.prog 34 #[.pointer none] w fun e w' => e = .returned (.bool false) ∧ w = w' := by
  go_enter Tryd.func34, Tryd.ntmps34
  go_wp2
  go_ret
  exact ⟨rfl, rfl⟩
set_option maxHeartbeats 400000 in
theorem given_self (s : Nat) (w : World) (h : w.cell? ⟨s, 0, none⟩ = some (.pointer (some ⟨s, 0, none⟩))) :
    Calls Tryd.prog 34 #[.pointer (some ⟨s, 0, none⟩)] w fun e w' => e = .returned (.bool true) ∧ w = w' := by
  obtain ⟨j, hj, _⟩ := Option.map_eq_some_iff.1 sizeTset
  have hq := run_eql_ptr_same (P := Tryd.prog) w (tp := 25) (te := 45) ⟨s, 0, none⟩ Tryd.underlying25 hj
  go_enter Tryd.func34, Tryd.ntmps34
  go_wp2
  go_ret
  exact ⟨rfl, rfl⟩
set_option maxHeartbeats 400000 in
theorem given_zero (s : Nat) (w : World) (h : w.cell? ⟨s, 0, none⟩ = some (.pointer none)) :
    Calls Tryd.prog 34 #[.pointer (some ⟨s, 0, none⟩)] w fun e w' => e = .returned (.bool false) ∧ w = w' := by
  have hq := eql_nil_ts w ⟨s, 0, none⟩
  go_enter Tryd.func34, Tryd.ntmps34
  go_wp2
  go_ret
  exact ⟨rfl, rfl⟩

/-- A set that nobody made. -/
def NoSet (p : Value) (w : World) : Prop := p = .pointer none ∨ ∃ s, p = .pointer (some ⟨s, 0, none⟩) ∧ s < w.heap.size ∧ w.cell? ⟨s, 0, none⟩ = some (.pointer none)
theorem NoSet.below {p : Value} {w w' : World} (h : NoSet p w) (hb : Below w.heap.size w w') : NoSet p w' := by
  rcases h with h | ⟨s, h1, h2, h3⟩
  · exact .inl h
  · exact .inr ⟨s, h1, Nat.lt_of_lt_of_le h2 hb.size, (hb.cell (p := ⟨s, 0, none⟩) h2).trans h3⟩
theorem given_no (p : Value) (w : World) (h : NoSet p w) : Calls Tryd.prog 34 #[p] w fun e w' => e = .returned (.bool false) ∧ w = w' := by
  rcases h with rfl | ⟨s, rfl, _, h⟩
  · exact given_nil w
  · exact given_zero s w h

set_option maxHeartbeats 400000 in
theorem tnew_bad (most : Int) (w : World) (h : most < 0 ∨ 64 < most) : Calls Tryd.prog 20 #[.int .i64 most] w fun e w' => e = .returned (.tuple #[.pointer none, .int .i64 1]) ∧ w = w' := by
  rcases (by omega : most < 0 ∨ (0 ≤ most ∧ 64 < most)) with h | ⟨h1, h⟩
  all_goals
    go_enter Tryd.func20, Tryd.ntmps20
    go_wp2
    go_ret2
    exact ⟨rfl, rfl⟩
theorem set_made (w : World) (most : Nat) (W : World) (hW : W.heap[w.heap.size + 1 + 1]? = some (.cells #[.pointer (some ⟨w.heap.size + 1 + 1, 0, none⟩), .int .i64 most, .int .i64 0, .map (some w.heap.size), .map (some (w.heap.size + 1))] 45 (0, 0)))
    (hb : Below (w.heap.size + 1 + 1) ((w.alloc (.map #[] 0)).alloc (.map #[] 0)) W) : SetAt W (w.heap.size + 1 + 1) w.heap.size (w.heap.size + 1) most [] [] := by
  refine ⟨hW, ?_, ?_, by omega⟩
  · have h1 := map_made rdPl w
    have h2 := h1.block (w' := (w.alloc (.map #[] 0)).alloc (.map #[] 0)) (Below.heap_alloc _ _ _ h1.lt)
    exact (h2.block (hb.block _ (by omega))).congr fun q => by simp [exF, pl, onp]
  · have h1 := map_made rdU (w.alloc (.map #[] 0))
    rw [show (w.alloc (.map #[] 0)).heap.size = w.heap.size + 1 by simp] at h1
    exact (h1.block (hb.block _ (by omega))).congr fun q => by simp [whF]
set_option maxHeartbeats 800000 in
theorem tnew_ok (most : Nat) (w : World) (h2 : most ≤ 64) : Calls Tryd.prog 20 #[.int .i64 most] w fun e w' => e = .returned (.tuple #[.pointer (some ⟨w.heap.size + 1 + 1, 0, none⟩), .int .i64 0]) ∧ SetAt w' (w.heap.size + 1 + 1) w.heap.size (w.heap.size + 1) most [] [] ∧ Below w.heap.size w w' := by
  have i2 : (most : Int) ≤ 64 := by omega
  have hmm := @run_makeMap Tryd.prog
  go_enter Tryd.func20, Tryd.ntmps20
  go_wp2
  go_ret2
  have hb2 : Below w.heap.size w ((w.alloc (.map #[] 0)).alloc (.map #[] 0)) := ((Below.refl _ _).alloc (Nat.le_refl _) _).alloc (by simp) _
  refine ⟨rfl, set_made w most _ ?_ ((Below.refl _ _).alloc (by simp) _), hb2.alloc (by simp; omega) _⟩
  have := heap_alloc_new ((w.alloc (.map #[] 0)).alloc (.map #[] 0)) (.cells #[.pointer (some ⟨w.heap.size + 1 + 1, 0, none⟩), .int .i64 most, .int .i64 0, .map (some w.heap.size), .map (some (w.heap.size + 1))] 45)
  simpa using this
set_option maxHeartbeats 800000 in
theorem at_any {w : World} {b be bw most : Nat} {T P : List Nat} (h : SetAt w b be bw most T P) (q : Nat) (hq : q < 262144) :
    Calls Tryd.prog 25 #[.pointer (some ⟨b, 0, none⟩), .int .i64 q] w fun e w' => e = .returned (.int .u64 ((if q ∈ P then 18446744073709551615 else pl T q : Nat) : Int)) ∧ Below w.heap.size w w' := by
  have c3 := h.c3
  have c4 := h.c4
  have hlU := h.wh.lookU q hq
  have hbl := h.lt
  have HL := Lib.hid (MapIs.lookPl (h.ex.block (w' := w.alloc (.cells #[] 53)) (Below.heap_alloc _ _ _ h.ex.lt)) q hq)
  by_cases hp : q ∈ P
  · rw [if_pos hp]
    rw [decide_eq_true hp] at hlU
    clear h hp
    go_enter Tryd.func25, Tryd.ntmps25
    go_wp2
    go_ret
    exact ⟨rfl, (Below.refl _ _).alloc (Nat.le_refl _) _⟩
  · rw [if_neg hp]
    rw [decide_eq_false hp] at hlU
    have hl2 := HL.out
    clear h hp
    go_enter Tryd.func25, Tryd.ntmps25
    go_wp2
    go_ret
    exact ⟨rfl, (Below.refl _ _).alloc (Nat.le_refl _) _⟩

/-- Addresses with those that some places of a page are. -/
def putT (T : List Nat) (q x : Nat) : List Nat := (tidsOf q x).foldr ins T
theorem mem_putT {T : List Nat} {q x t : Nat} : t ∈ putT T q x ↔ t ∈ T ∨ t / 64 = q ∧ x.testBit (t % 64) = true := by
  unfold putT
  rw [← mem_tidsOf]
  generalize tidsOf q x = l
  induction l with
  | nil => simp
  | cons a r ih => rw [List.foldr_cons, mem_ins, ih, List.mem_cons]; constructor <;> (intro h; rcases h with h | h | h <;> simp [h])
theorem srt_putT {T : List Nat} (h : Srt T) (q x : Nat) : Srt (putT T q x) := by
  unfold putT
  generalize tidsOf q x = l
  induction l with
  | nil => exact h
  | cons a r ih => exact srt_ins ih
theorem putT_pl {T : List Nat} {q x : Nat} (hx : x < 18446744073709551616) : pl T q ||| x = pl (putT T q x) q := pl_ext (by have := Nat.or_lt_two_pow (n := 64) (show pl T q < 2 ^ 64 from pl_lt T q) (show x < 2 ^ 64 from hx); omega) fun i hi => by
  rw [Nat.testBit_or, Bool.or_eq_true, pl_bit, mem_putT, show (64 * q + i) / 64 = q by omega, show (64 * q + i) % 64 = i by omega]
  exact ⟨fun h => h.imp (fun h => h.2) (fun h => ⟨rfl, h⟩), fun h => h.imp (fun h => ⟨hi, h⟩) (fun h => h.2)⟩
theorem putT_pl' {T : List Nat} {q x p : Nat} (hp : p ≠ q) : pl (putT T q x) p = pl T p := pl_ext (pl_lt _ _) fun i hi => by
  rw [pl_bit, mem_putT, show (64 * p + i) / 64 = p by omega]
  exact ⟨fun h => h.2.elim id (fun h => absurd h.1 hp), fun h => ⟨hi, .inl h⟩⟩
theorem putT_length {T : List Nat} (h : Srt T) {q x : Nat} (hx : x < 18446744073709551616) : (putT T q x).length = T.length + (bitsL ((x ||| pl T q) ^^^ pl T q)).length := by
  have h1 := off_length q (putT T q x)
  have h2 := off_length q T
  have h3 : off q (putT T q x) = off q T := srt_ext (srt_filter _ (srt_putT h q x)) (srt_filter _ h) fun t => by
    rw [mem_off, mem_off, mem_putT]
    exact ⟨fun e => ⟨e.1.elim id (fun e' => absurd e'.1 e.2), e.2⟩, fun e => ⟨.inl e.1, e.2⟩⟩
  rw [h3, ← bits_cnt (srt_putT h q x), ← putT_pl hx] at h1
  rw [← bits_cnt h] at h2
  have h4 : pl T q ||| x = ((x ||| pl T q) ^^^ pl T q) ||| pl T q := Nat.eq_of_testBit_eq fun i => by
    simp only [Nat.testBit_or, Nat.testBit_xor]
    cases (pl T q).testBit i <;> cases x.testBit i <;> rfl
  rw [h4, bitsL_or_length (fun i a b => by
    rw [Nat.testBit_xor, Nat.testBit_or, b] at a
    cases hh : x.testBit i <;> rw [hh] at a <;> cases a)] at h1
  omega

set_option maxHeartbeats 800000 in
theorem put_there {w : World} {b be bw most : Nat} {T P : List Nat} (h : SetAt w b be bw most T P) (q x : Nat) (hq : q < 262144) (hp : q ∈ P) :
    Calls Tryd.prog 26 #[.pointer (some ⟨b, 0, none⟩), .int .i64 q, .int .u64 x] w fun e w' => e = .returned (.tuple #[]) ∧ Below w.heap.size w w' := by
  have c4 := h.c4
  have hlU := h.wh.lookU q hq
  have hbl := h.lt
  rw [decide_eq_true hp] at hlU
  clear h hp
  go_enter Tryd.func26, Tryd.ntmps26
  go_wp2
  exact bodyPost_ret (v := .tuple #[]) (by simp [results, Tryd.results26, go_sem]) rfl ⟨rfl, (Below.refl _ _).alloc (Nat.le_refl _) _⟩

theorem cell2 (w : World) (b be bw most n m : Nat) (h : w.heap[b]? = some (.cells #[.pointer (some ⟨b, 0, none⟩), .int .i64 most, .int .i64 (n : Int), .map (some be), .map (some bw)] 45 (0, 0))) :
    (w.setCell ⟨b, 2, none⟩ (.int .i64 (m : Int))).heap[b]? = some (.cells #[.pointer (some ⟨b, 0, none⟩), .int .i64 most, .int .i64 (m : Int), .map (some be), .map (some bw)] 45 (0, 0)) := by
  have := heap_setCell_same w b 2 _ 45 (.int .i64 (m : Int)) h
  simpa using this

set_option maxHeartbeats 1600000 in
theorem put_out {w : World} {b be bw most : Nat} {T P : List Nat} (h : SetAt w b be bw most T P) (hR : Raw T P) (q x : Nat) (hq : q < 262144) (hp : q ∉ P) (hx : x < 18446744073709551616) (hx0 : x ≠ 0) :
    Calls Tryd.prog 26 #[.pointer (some ⟨b, 0, none⟩), .int .i64 q, .int .u64 x] w fun e w' => e = .returned (.tuple #[]) ∧ SetAt w' b be bw most (putT T q x) P ∧ Kept (Own b be bw) w w' := by
  have c3 := h.c3
  have c4 := h.c4
  have hlU := h.wh.lookU q hq
  have hbl := h.lt
  rw [decide_eq_false hp] at hlU
  have hb1 : Below w.heap.size w (w.alloc (.cells #[] 53)) := (Below.refl _ _).alloc (Nat.le_refl _) _
  have h1 := h.below hb1
  have hlP := h1.ex.lookPl q hq
  have hpl := putT_pl (T := T) (q := q) hx
  have hne : pl (putT T q x) q ≠ 0 := fun e => by
    rw [← hpl] at e
    exact hx0 (by have := Nat.right_le_or (n := pl T q) (m := x); omega)
  obtain ⟨w2, hr2, hm2, ht2⟩ := h1.ex.putPl hR.tl q hq (putT T q x) hne (fun p hp => putT_pl' hp)
  have hk2 : Kept (Own b be bw) w w2 := (Kept.ofBelow hb1).trans (Kept.ofTurned (S := Own b be bw) ht2 (.inr (.inl rfl))) (fun _ h => .inl h)
  have hnb := h.nb
  have hbk : w2.heap[b]? = w.heap[b]? := (ht2.grown.block b (Nat.lt_of_lt_of_le hbl (by simp)) (by simp; exact fun e => hnb.1 e)).trans (hb1.block b hbl)
  have hbw2 : w2.heap[bw]? = w.heap[bw]? := (ht2.grown.block bw (Nat.lt_of_lt_of_le h.wh.lt (by simp)) (by simp; exact fun e => h.ne e.symm)).trans (hb1.block bw h.wh.lt)
  have hblk2 := hbk.trans h.blk
  have hlen := putT_length hR.st (q := q) hx
  have hfew : T.length ≤ 16777216 := by
    rcases srt_few 16777216 T 0 hR.st (fun t ht => ⟨by omega, hR.tl t ht⟩) with e | e
    · rw [e]; simp
    · omega
  have hbits : (bitsL ((x ||| pl T q) ^^^ pl T q)).length ≤ 64 := by unfold bitsL; exact Nat.le_trans (List.length_filter_le _ _) (by simp)
  have hor : bits BinOp.or IntKind.u64 ((pl T q : Nat) : Int) (x : Int) = ((pl (putT T q x) q : Nat) : Int) := by rw [bits_or_u64_nat _ _ (pl_lt T q) hx, hpl]
  have han := bits_andNot x (pl T q) hx (pl_lt T q)
  have hxl : (x ||| pl T q) ^^^ pl T q < 18446744073709551616 := Nat.xor_lt_two_pow (n := 64) (Nat.or_lt_two_pow (show x < 2 ^ 64 from hx) (pl_lt T q)) (pl_lt T q)
  have HO := Lib.hid (fun W => tcount_any _ hxl W)
  obtain ⟨k, hk⟩ : ∃ k, k = (bitsL ((x ||| pl T q) ^^^ pl T q)).length := ⟨_, rfl⟩
  obtain ⟨y, hy⟩ : ∃ y, y = (x ||| pl T q) ^^^ pl T q := ⟨_, rfl⟩
  obtain ⟨d, hd⟩ : ∃ d, d = pl T q := ⟨_, rfl⟩
  obtain ⟨z, hz⟩ : ∃ z, z = pl (putT T q x) q := ⟨_, rfl⟩
  obtain ⟨n, hn⟩ : ∃ n, n = T.length := ⟨_, rfl⟩
  rw [← hk] at HO hbits hlen
  rw [← hy] at HO han
  rw [← hd] at han hor hlP
  rw [← hz] at hor hr2
  rw [← hn] at hlen hfew hblk2
  have d2 : w2.cell? ⟨b, 2, none⟩ = some (.int .i64 (n : Int)) := Lib.cell_of_heap hblk2 2
  have d3 : w2.cell? ⟨b, 3, none⟩ = some (.map (some be)) := Lib.cell_of_heap hblk2 3
  have f2 : w2.frozen? ⟨b, 2, none⟩ = false := by simp [World.frozen?, hblk2]
  have hw1 : IntKind.i64.wrap ((n : Int) + (k : Int)) = (n : Int) + (k : Int) := IntWalk.i64_in _ (by omega)
  have HE : Hid (∀ j, SetAt ((w2.drewN j).setCell ⟨b, 2, none⟩ (.int .i64 ((n : Int) + (k : Int)))) b be bw most (putT T q x) P ∧ Kept (Own b be bw) w ((w2.drewN j).setCell ⟨b, 2, none⟩ (.int .i64 ((n : Int) + (k : Int))))) := Lib.hid fun j => by
    have hkk : Kept (fun i => i = b) (w2.drewN j) ((w2.drewN j).setCell ⟨b, 2, none⟩ (.int .i64 ((n : Int) + (k : Int)))) := Kept.setCell (fun i => i = b) _ (b := b) (i := 2) rfl _
    refine ⟨⟨?_, (hm2.block (w' := w2.drewN j) rfl).block (hkk.block be hm2.lt (fun e => hnb.1 e.symm)), (h.wh.block (w' := w2.drewN j) hbw2).block (hkk.block bw ?_ (fun e => hnb.2 e.symm)), h.ne⟩, ?_⟩
    · have := cell2 (w2.drewN j) b be bw most n (n + k) hblk2
      rw [hlen]
      exact_mod_cast this
    · exact Nat.lt_of_lt_of_le h.wh.lt hk2.size
    · exact (hk2.trans (Kept.ofBelow (S := Own b be bw) (b := w2.drewN j) ⟨rfl, rfl, rfl, Nat.le_refl _, fun _ _ => rfl⟩) (fun _ e => .inl e)).trans (hkk.mono (T := Own b be bw) (fun i e => .inl e)) (fun _ e => .inl e)
  clear h hR hp hx hx0 hb1 h1 hpl hne hm2 ht2 hk2 hnb hbk hbw2 hblk2 hlen hk hy hd hz hn hxl
  go_enter Tryd.func26, Tryd.ntmps26
  go_wp2
  obtain ⟨W, hW⟩ : ∃ W, W = w2 := ⟨_, rfl⟩
  rw [← hW]
  rw [← hW] at d2 d3 f2 HE
  clear hW
  go_still_tail 11, (by kernel_rfl)
  still_call ((HO.out _).mono fun _ _ h => ⟨h.1, h.2.symm⟩)
  repeat still_step
  refine wpStill_nil ?_
  go_wp2
  go_end0
  exact ⟨rfl, (HE.out 1).1, (HE.out 1).2⟩
end Go.Proofs.YtpjpkpbfbbpmdaaDoor.Ts
