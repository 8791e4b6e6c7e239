/- One raw write on both sides. -/
import Derived.Test.YtafokloeabjpgaaKM
set_option maxRecDepth 100000
namespace Go.Proofs.Ytafokloeabjpgaa
open Go.RowKit

def trimStep (f n : Int) (F : Nat → List UInt8) : Option RawOp := if 0 ≤ f ∧ f < 4 ∧ 0 ≤ n ∧ n ≤ (F f.toNat).length then some (.trim f.toNat n.toNat) else none
def putStep (f n : Int) (s : ByteArray) : Option RawOp := if 0 ≤ f ∧ f < 4 ∧ 0 ≤ n ∧ n + s.size ≤ 4194304 then some (.put f.toNat n.toNat s) else none
def code (o : Option RawOp) : Int := if o.isSome then 0 else 1
def nextF (F : Nat → List UInt8) (o : Option RawOp) : Nat → List UInt8 := match o with | none => F | some o => o.run F
def nextN (N : Nat) (o : Option RawOp) : Nat := if o.isSome then N + 1 else N

theorem trim_any (f n : Int) (S : Nat → Prop) (d : Nat) (ops : List RawOp) (w : World) (h : DiskAt S d ops w) (hlen : ops.length ≤ 4398046511104) :
    Calls Try.prog 20 #[.pointer (some ⟨d, 0, none⟩), .int .i64 f, .int .i64 n] w fun e w' => e = .returned (.int .i64 (code (trimStep f n (play ops)))) ∧ DiskAt (More S w.heap.size) d (ops ++ (trimStep f n (play ops)).toList) w' ∧ Kept S w w' := by
  by_cases hc : 0 ≤ f ∧ f < 4 ∧ 0 ≤ n ∧ n ≤ (play ops f.toNat).length
  · have hs : trimStep f n (play ops) = some (.trim f.toNat n.toNat) := if_pos hc
    rw [hs]
    have := trim_ok f.toNat n.toNat S d ops w h hlen (by omega) (by omega)
    rw [show ((f.toNat : Nat) : Int) = f by omega, show ((n.toNat : Nat) : Int) = n by omega] at this
    exact this
  · have hs : trimStep f n (play ops) = none := if_neg hc
    rw [hs]
    refine (trim_no f n S d ops w h hc).mono ?_
    rintro e w' ⟨rfl, rfl⟩
    exact ⟨rfl, by simpa using h.mono (fun _ hi => .inl hi), Kept.refl _ _⟩

theorem write_any (f n : Int) (s : ByteArray) (S : Nat → Prop) (d : Nat) (ops : List RawOp) (w : World) (h : DiskAt S d ops w) (hlen : ops.length ≤ 4398046511104) (hz : s.size ≤ 9223372036854775807) :
    Calls Try.prog 16 #[.pointer (some ⟨d, 0, none⟩), .int .i64 f, .int .i64 n, .string s] w fun e w' => e = .returned (.int .i64 (code (putStep f n s))) ∧ DiskAt (More S w.heap.size) d (ops ++ (putStep f n s).toList) w' ∧ Kept S w w' := by
  by_cases hc : 0 ≤ f ∧ f < 4 ∧ 0 ≤ n ∧ n + s.size ≤ 4194304
  · have hs : putStep f n s = some (.put f.toNat n.toNat s) := if_pos hc
    rw [hs]
    have := write_ok f.toNat n.toNat s S d ops w h hlen hz (by omega) (by omega)
    rw [show ((f.toNat : Nat) : Int) = f by omega, show ((n.toNat : Nat) : Int) = n by omega] at this
    exact this
  · have hs : putStep f n s = none := if_neg hc
    rw [hs]
    refine (write_no f n s S d ops w h hz hc).mono ?_
    rintro e w' ⟨rfl, rfl⟩
    exact ⟨rfl, by simpa using h.mono (fun _ hi => .inl hi), Kept.refl _ _⟩

theorem rtrim_any (S : Nat → Prop) (v : Value) (F : Nat → List UInt8) (N : Nat) (f n : Int) (w : World) (h : RefAt S w v F N) (hS : ∀ k, S k → k < w.heap.size) (hN : N ≤ 4611686018427387904) (hmax : ∀ i, (F i).length ≤ 4194304) :
    Calls Try.prog 21 #[v, .int .i64 f, .int .i64 n] w fun e w' => ∃ v', e = .returned (.tuple #[v', .int .i64 (code (trimStep f n F))]) ∧ RefAt S w' v' (nextF F (trimStep f n F)) (nextN N (trimStep f n F)) ∧ Below w.heap.size w w' := by
  obtain ⟨A, Ln, C, rfl, hB⟩ := h
  by_cases hc : 0 ≤ f ∧ f < 4 ∧ 0 ≤ n ∧ n ≤ (F f.toNat).length
  · have hs : trimStep f n F = some (.trim f.toNat n.toNat) := if_pos hc
    rw [hs]
    have := rtrim_ok S A Ln C F N f.toNat n.toNat w hB hS hN (hmax _) (by omega) (by omega)
    rw [show ((f.toNat : Nat) : Int) = f by omega, show ((n.toNat : Nat) : Int) = n by omega] at this
    exact this
  · have hs : trimStep f n F = none := if_neg hc
    rw [hs]
    refine (rtrim_no S A Ln C F N f n w hB hc).mono ?_
    rintro e w' ⟨rfl, hb⟩
    exact ⟨_, rfl, ⟨A, Ln, C, rfl, hB.below hb⟩, hb⟩

theorem rwrite_any (S : Nat → Prop) (v : Value) (F : Nat → List UInt8) (N : Nat) (f n : Int) (s : ByteArray) (w : World) (h : RefAt S w v F N) (hS : ∀ k, S k → k < w.heap.size) (hN : N ≤ 4611686018427387904) (hmax : ∀ i, (F i).length ≤ 4194304) (hz : s.size ≤ 9223372036854775807) :
    Calls Try.prog 17 #[v, .int .i64 f, .int .i64 n, .string s] w fun e w' => ∃ v', e = .returned (.tuple #[v', .int .i64 (code (putStep f n s))]) ∧ RefAt S w' v' (nextF F (putStep f n s)) (nextN N (putStep f n s)) ∧ Below w.heap.size w w' := by
  obtain ⟨A, Ln, C, rfl, hB⟩ := h
  by_cases hc : 0 ≤ f ∧ f < 4 ∧ 0 ≤ n ∧ n + s.size ≤ 4194304
  · have hs : putStep f n s = some (.put f.toNat n.toNat s) := if_pos hc
    rw [hs]
    have := rwrite_ok S A Ln C F N f.toNat n.toNat s w hB hS hN (hmax _) (by omega) (by omega)
    rw [show ((f.toNat : Nat) : Int) = f by omega, show ((n.toNat : Nat) : Int) = n by omega] at this
    exact this
  · have hs : putStep f n s = none := if_neg hc
    rw [hs]
    refine (rwrite_no A Ln C N f n s w hz hc).mono ?_
    rintro e w' ⟨rfl, hb⟩
    exact ⟨_, rfl, ⟨A, Ln, C, rfl, hB.below hb⟩, hb⟩

/-- The value of an operation. -/
abbrev opv (k f n : Int) (s : ByteArray) : Value := .agg #[.int .i64 k, .int .i64 f, .int .i64 n, .string s]

def smallB (n : Int) (s : ByteArray) : Bool := decide (n < 4096 ∧ (s.size : Int) < 4096 ∨ 4194304 < n ∨ n < 0)

set_option maxHeartbeats 1000000 in
theorem small_any (k f n : Int) (s : ByteArray) (w : World) : Calls Try.prog 9 #[opv k f n s] w fun e w' => e = .returned (.bool (smallB n s)) ∧ Below w.heap.size w w' := by
  go_enter Try.func9, Try.ntmps9
  go_wp2
  all_goals
    go_ret
    refine ⟨congrArg (fun b => Ending.returned (.bool b)) ?_, (Below.refl _ _).alloc (Nat.le_refl _) _⟩
    rw [Bool.eq_iff_iff]
    simp only [smallB, decide_eq_true_eq]
    grind

def step (k f n : Int) (s : ByteArray) (F : Nat → List UInt8) : Option RawOp := if k = 2 then trimStep f n F else putStep f n s

theorem DiskAt.bound {S : Nat → Prop} {d : Nat} {ops : List RawOp} {w : World} (h : DiskAt S d ops w) : DiskAt (fun k => S k ∧ k < w.heap.size) d ops w := by
  obtain ⟨hok, vs, h⟩ := h
  exact ⟨hok, vs, ⟨⟨h.own, h.lt⟩, h.blk, h.file, h.done, fun i k hi hk => ⟨⟨(h.foot i k hi hk).1, h.ltV i k hi hk⟩, (h.foot i k hi hk).2⟩, h.inj⟩⟩
/-- Block b holds a document's disk. -/
def Holds28 (b : Nat) (w : World) : Prop := ∃ c, w.heap[b]? = some (.cells c 28 (0, 0))
theorem Holds28.cell {b : Nat} {w : World} (h : Holds28 b w) (i : Nat) (x : Value) : Holds28 b (w.setCell ⟨b, i, none⟩ x) := by
  obtain ⟨c, h⟩ := h
  exact ⟨_, _root_.Go.heap_setCell_same w b i c 28 x h⟩
theorem refAt_cell {S : Nat → Prop} {w : World} {v : Value} {F : Nat → List UInt8} {N b : Nat} (h : RefAt S w v F N ∧ Holds28 b w) (i : Nat) (x : Value) : RefAt S (w.setCell ⟨b, i, none⟩ x) v F N ∧ Holds28 b (w.setCell ⟨b, i, none⟩ x) := by
  refine ⟨?_, h.2.cell i x⟩
  obtain ⟨⟨A, Ln, C, hv, hB⟩, c, h2⟩ := h
  refine ⟨A, Ln, C, hv, fun j hj => ⟨bytes_cell (hB j hj).1 _ _ _ (fun k hk hkb => ?_), (hB j hj).2⟩⟩
  subst hkb
  rcases (hB j hj).1.2 with ⟨hv0, _⟩ | ⟨g, cap, cur, hv0, _, hg, _⟩
  · rw [hv0] at hk; simp [Value.ownBlock] at hk
  · rw [hv0] at hk
    simp [Value.ownBlock] at hk
    subst hk
    rw [h2] at hg
    simp at hg
theorem kept_cell {S : Nat → Prop} {w w' : World} (h : Kept S w w') (b i : Nat) (x : Value) (hb : w.heap.size ≤ b) : Kept S w (w'.setCell ⟨b, i, none⟩ x) :=
  h.trans (Kept.setCell (fun k => k = b) w' rfl x) (fun k hk => .inr (by omega))
theorem diskAt_cell {S : Nat → Prop} {d : Nat} {ops : List RawOp} {w : World} (h : DiskAt S d ops w) (b i : Nat) (x : Value) (hb : ¬ S b) : DiskAt S d ops (w.setCell ⟨b, i, none⟩ x) :=
  h.kept (Kept.setCell (fun k => k = b) w rfl x) (fun k _ hs hk => hb (hk ▸ hs))

theorem refAt_of {S : Nat → Prop} {w : World} {v : Value} {F : Nat → List UInt8} {N b : Nat} (h : RefAt S w v F N ∧ Holds28 b w) : RefAt S w v F N := h.1

theorem does_end {S : Nat → Prop} {d : Nat} {ops : List RawOp} {v : Value} {F : Nat → List UInt8} {N : Nat} {w w2 w5 : World} {c : Array Value} (hS : ∀ k, S k → k < w.heap.size) (hsz2 : w.heap.size + 3 ≤ w2.heap.size) (hr : RefAt S w2 v F N)
    (h5 : DiskAt (More S (w2.heap.size + 1)) d ops w5 ∧ Kept S w w5 ∧ Kept S w2 w5 ∧ w2.heap.size + 1 ≤ w5.heap.size) (e6 : w5.heap[w.heap.size + 1 + 1]? = some (.cells c 28 (0, 0))) (x0 x1 x2 x3 x4 : Value) :
    ∃ S', DiskAt S' d ops (((((w5.setCell ⟨w.heap.size + 1 + 1, 0, none⟩ x0).setCell ⟨w.heap.size + 1 + 1, 1, none⟩ x1).setCell ⟨w.heap.size + 1 + 1, 2, none⟩ x2).setCell ⟨w.heap.size + 1 + 1, 3, none⟩ x3).setCell ⟨w.heap.size + 1 + 1, 4, none⟩ x4) ∧
      RefAt S' (((((w5.setCell ⟨w.heap.size + 1 + 1, 0, none⟩ x0).setCell ⟨w.heap.size + 1 + 1, 1, none⟩ x1).setCell ⟨w.heap.size + 1 + 1, 2, none⟩ x2).setCell ⟨w.heap.size + 1 + 1, 3, none⟩ x3).setCell ⟨w.heap.size + 1 + 1, 4, none⟩ x4) v F N ∧ (∀ i, S i → S' i) ∧ (∀ i, S' i → S i ∨ w.heap.size ≤ i) ∧
      (∀ i, S' i → i < (((((w5.setCell ⟨w.heap.size + 1 + 1, 0, none⟩ x0).setCell ⟨w.heap.size + 1 + 1, 1, none⟩ x1).setCell ⟨w.heap.size + 1 + 1, 2, none⟩ x2).setCell ⟨w.heap.size + 1 + 1, 3, none⟩ x3).setCell ⟨w.heap.size + 1 + 1, 4, none⟩ x4).heap.size) ∧
      Kept S w (((((w5.setCell ⟨w.heap.size + 1 + 1, 0, none⟩ x0).setCell ⟨w.heap.size + 1 + 1, 1, none⟩ x1).setCell ⟨w.heap.size + 1 + 1, 2, none⟩ x2).setCell ⟨w.heap.size + 1 + 1, 3, none⟩ x3).setCell ⟨w.heap.size + 1 + 1, 4, none⟩ x4) := by
  obtain ⟨h5a, h5b, h5c, h5d⟩ := h5
  refine ⟨fun k => More S (w2.heap.size + 1) k ∧ k < w5.heap.size, ?_, ?_, fun i hi => ⟨.inl hi, Nat.lt_of_lt_of_le (hS i hi) (by omega)⟩, fun i hi => hi.1.imp id (fun h => by omega), fun i hi => by simpa [World.setCell] using hi.2, ?_⟩
  · iterate 5 refine diskAt_cell ?_ _ _ _ (fun h => h.1.elim (fun hs => by have := hS _ hs; omega) (by omega))
    exact h5a.bound
  · refine refAt_of (b := w.heap.size + 1 + 1) ?_
    iterate 5 refine refAt_cell ?_ _ _
    refine ⟨?_, _, e6⟩
    exact (hr.more (fun k hk ht => ht.1.elim id (fun h => by omega))).kept (h5c.mono (fun i hi => ⟨.inl hi, Nat.lt_of_lt_of_le (hS i hi) (by omega)⟩))
  · iterate 5 refine kept_cell ?_ _ _ _ (by omega)
    exact h5b

set_option maxHeartbeats 4000000 in
theorem does_trim (k f n : Int) (s : ByteArray) (S : Nat → Prop) (d : Nat) (ops : List RawOp) (v : Value) (F : Nat → List UInt8) (N : Nat) (w : World) (hD : DiskAt S d ops w) (hR : RefAt S w v F N) (hS : ∀ k, S k → k < w.heap.size) (hlen : ops.length ≤ 4398046511104) (hN : N ≤ 4611686018427387904) (hmax : ∀ i, (F i).length ≤ 4194304) (hz : s.size ≤ 9223372036854775807) (hk : k = 2) :
    Calls Try.prog 11 #[.pointer (some ⟨d, 0, none⟩), v, opv k f n s] w fun e w' => ∃ v' b, e = .returned (.tuple #[v', .bool b]) ∧ (code (step k f n s (play ops)) = code (step k f n s F) → b = true) ∧
      ∃ S', DiskAt S' d (ops ++ (step k f n s (play ops)).toList) w' ∧ RefAt S' w' v' (nextF F (step k f n s F)) (nextN N (step k f n s F)) ∧ (∀ i, S i → S' i) ∧ (∀ i, S' i → S i ∨ w.heap.size ≤ i) ∧ (∀ i, S' i → i < w'.heap.size) ∧ Kept S w w' := by
  obtain ⟨A, Ln, C, rfl, hB⟩ := hR
  have hst : ∀ G, step k f n s G = trimStep f n G := fun G => if_pos hk
  simp only [hst]
  clear hst
  have hX : Below w.heap.size w (((w.alloc (.cells #[Value.slice (A 0) (Ln 0) (C 0), .slice (A 1) (Ln 1) (C 1), .slice (A 2) (Ln 2) (C 2), .slice (A 3) (Ln 3) (C 3), .int .i64 N] 28)).alloc (.cells #[.int .i64 2, .int .i64 f, .int .i64 n, .string s] 31)).alloc (.cells #[.slice none 0 0, .slice none 0 0, .slice none 0 0, .slice none 0 0, .int .i64 0] 28)) := (((Below.refl _ w).alloc (Nat.le_refl _) _).alloc (by simp) _).alloc (by simp; omega) _
  have HT := Lib.hid (rtrim_any S (rv A Ln C N) F N f n _ (RefAt.below ⟨A, Ln, C, rfl, hB⟩ hX) (fun k hk => Nat.lt_of_lt_of_le (hS k hk) hX.size) hN hmax)
  have HD := Lib.hid hD; clear hD
  have HM := Lib.hid hmax; clear hmax
  have HS := Lib.hid hS; clear hS
  have HX := Lib.hid hX; clear hX
  clear hB
  go_enter Try.func11, Try.ntmps11
  go_wp2_with (go_at_call 21; refine HT.out.mono ?_)
  rintro e w2 ⟨v', rfl, ⟨A2, Ln2, C2, rfl, hB2⟩, hb2⟩
  obtain ⟨N2, hN2⟩ : ∃ N2, N2 = nextN N (trimStep f n F) := ⟨_, rfl⟩
  rw [← hN2]
  obtain ⟨cr, hcr⟩ : ∃ cr, cr = code (trimStep f n F) := ⟨_, rfl⟩
  rw [← hcr]
  have hsz2 : w.heap.size + 3 ≤ w2.heap.size := by have := hb2.size; simp at this; omega
  have hwb : Below w.heap.size w w2 := HX.out.trans (hb2.mono HX.out.size)
  have k31 : w2.heap[w.heap.size + 1]? = some (.cells #[.int .i64 2, .int .i64 f, .int .i64 n, .string s] 31) := by
    rw [hb2.block (w.heap.size + 1) (by simp), Below.heap_alloc _ _ _ (by simp)]
    have := heap_alloc_new (w.alloc (.cells #[Value.slice (A 0) (Ln 0) (C 0), .slice (A 1) (Ln 1) (C 1), .slice (A 2) (Ln 2) (C 2), .slice (A 3) (Ln 3) (C 3), .int .i64 N] 28)) (.cells #[.int .i64 2, .int .i64 f, .int .i64 n, .string s] 31)
    simpa using this
  have k28 : w2.heap[w.heap.size + 1 + 1]? = some (.cells #[.slice none 0 0, .slice none 0 0, .slice none 0 0, .slice none 0 0, .int .i64 0] 28) := by
    rw [hb2.block (w.heap.size + 1 + 1) (by simp)]
    have := heap_alloc_new ((w.alloc (.cells #[Value.slice (A 0) (Ln 0) (C 0), .slice (A 1) (Ln 1) (C 1), .slice (A 2) (Ln 2) (C 2), .slice (A 3) (Ln 3) (C 3), .int .i64 N] 28)).alloc (.cells #[.int .i64 2, .int .i64 f, .int .i64 n, .string s] 31)) (.cells #[.slice none 0 0, .slice none 0 0, .slice none 0 0, .slice none 0 0, .int .i64 0] 28)
    simpa using this
  have hY : Below w2.heap.size w2 (w2.alloc (.cells #[Value.slice (A2 0) (Ln2 0) (C2 0), .slice (A2 1) (Ln2 1) (C2 1), .slice (A2 2) (Ln2 2) (C2 2), .slice (A2 3) (Ln2 3) (C2 3), .int .i64 N2] 28)).drew := ((Below.refl _ w2).alloc (Nat.le_refl _) _).drew
  have hsY : (w2.alloc (.cells #[Value.slice (A2 0) (Ln2 0) (C2 0), .slice (A2 1) (Ln2 1) (C2 1), .slice (A2 2) (Ln2 2) (C2 2), .slice (A2 3) (Ln2 3) (C2 3), .int .i64 N2] 28)).drew.heap.size = w2.heap.size + 1 := by show (w2.heap.push _).size = _; simp
  have hwY : Below w.heap.size w (w2.alloc (.cells #[Value.slice (A2 0) (Ln2 0) (C2 0), .slice (A2 1) (Ln2 1) (C2 1), .slice (A2 2) (Ln2 2) (C2 2), .slice (A2 3) (Ln2 3) (C2 3), .int .i64 N2] 28)).drew := hwb.trans (hY.mono (by omega))
  have hDY : DiskAt S d ops (w2.alloc (.cells #[Value.slice (A2 0) (Ln2 0) (C2 0), .slice (A2 1) (Ln2 1) (C2 1), .slice (A2 2) (Ln2 2) (C2 2), .slice (A2 3) (Ln2 3) (C2 3), .int .i64 N2] 28)).drew := HD.out.below hwY
  have hT2 : Calls Try.prog 20 #[.pointer (some ⟨d, 0, none⟩), .int .i64 f, .int .i64 n] (w2.alloc (.cells #[Value.slice (A2 0) (Ln2 0) (C2 0), .slice (A2 1) (Ln2 1) (C2 1), .slice (A2 2) (Ln2 2) (C2 2), .slice (A2 3) (Ln2 3) (C2 3), .int .i64 N2] 28)).drew fun e w' => e = .returned (.int .i64 (code (trimStep f n (play ops)))) ∧ Hid (DiskAt (More S (w2.heap.size + 1)) d (ops ++ (trimStep f n (play ops)).toList) w' ∧ Kept S w w' ∧ Kept S w2 w' ∧ w2.heap.size + 1 ≤ w'.heap.size) ∧ Hid (w'.heap[w.heap.size + 1 + 1]? = some (.cells #[.slice none 0 0, .slice none 0 0, .slice none 0 0, .slice none 0 0, .int .i64 0] 28)) ∧ Hid (w'.heap[w2.heap.size]? = some (.cells #[Value.slice (A2 0) (Ln2 0) (C2 0), .slice (A2 1) (Ln2 1) (C2 1), .slice (A2 2) (Ln2 2) (C2 2), .slice (A2 3) (Ln2 3) (C2 3), .int .i64 N2] 28)) := by
    refine (trim_any f n S d ops _ hDY hlen).mono ?_
    rintro e w' ⟨rfl, h1, h2⟩
    rw [hsY] at h1
    have hk2 : Kept S w2 w' := (Kept.ofBelow hY).trans h2 (fun _ hi => .inl hi)
    have hs2 := h2.size
    rw [hsY] at hs2
    refine ⟨rfl, Lib.hid ⟨h1, (Kept.ofBelow hwY).trans h2 (fun _ hi => .inl hi), hk2, hs2⟩, Lib.hid ?_, Lib.hid ?_⟩
    · rw [hk2.block (w.heap.size + 1 + 1) (by omega) (fun hs => by have := HS.out _ hs; omega)]
      exact k28
    · rw [h2.block w2.heap.size (by rw [hsY]; omega) (fun hs => by have := HS.out _ hs; omega)]
      exact heap_alloc_new w2 _
  obtain ⟨cd, hcd⟩ : ∃ cd, cd = code (trimStep f n (play ops)) := ⟨_, rfl⟩
  rw [← hcd] at hT2
  have HT2 := Lib.hid hT2; clear hT2
  have q1 : w2.cell? ⟨w.heap.size + 1, 1, none⟩ = some (.int .i64 f) := by rw [Lib.cell_of_heap k31]; rfl
  have q2 : w2.cell? ⟨w.heap.size + 1, 2, none⟩ = some (.int .i64 n) := by rw [Lib.cell_of_heap k31]; rfl
  have hlt1 : w.heap.size + 1 < w2.heap.size := by omega
  have HB2 := Lib.hid hB2; clear hB2
  have HN2 := Lib.hid hN2; clear hN2
  have HWB := Lib.hid hwb; clear hwb
  have HCR := Lib.hid hcr; clear hcr
  have HCD := Lib.hid hcd; clear hcd
  clear hb2 k31 k28 hY hsY hwY hDY
  go_wp2
  go_region_with (go_at_call 20; refine HT2.out.mono ?_; rintro e w5 ⟨rfl, H5, E6, E8⟩; have c60 : w5.cell? ⟨w.heap.size + 1 + 1, 0, none⟩ = some (.slice none 0 0) := (by rw [Lib.cell_of_heap E6.out]; rfl); have c61 : w5.cell? ⟨w.heap.size + 1 + 1, 1, none⟩ = some (.slice none 0 0) := (by rw [Lib.cell_of_heap E6.out]; rfl); have c62 : w5.cell? ⟨w.heap.size + 1 + 1, 2, none⟩ = some (.slice none 0 0) := (by rw [Lib.cell_of_heap E6.out]; rfl); have c63 : w5.cell? ⟨w.heap.size + 1 + 1, 3, none⟩ = some (.slice none 0 0) := (by rw [Lib.cell_of_heap E6.out]; rfl); have c64 : w5.cell? ⟨w.heap.size + 1 + 1, 4, none⟩ = some (.int .i64 0) := (by rw [Lib.cell_of_heap E6.out]; rfl); have f6 : ∀ i, w5.frozen? ⟨w.heap.size + 1 + 1, i, none⟩ = false := (fun i => Lib.frozen_of_heap E6.out i); have c80 : w5.cell? ⟨w2.heap.size, 0, none⟩ = some (.slice (A2 0) (Ln2 0) (C2 0)) := (by rw [Lib.cell_of_heap E8.out]; rfl); have c81 : w5.cell? ⟨w2.heap.size, 1, none⟩ = some (.slice (A2 1) (Ln2 1) (C2 1)) := (by rw [Lib.cell_of_heap E8.out]; rfl); have c82 : w5.cell? ⟨w2.heap.size, 2, none⟩ = some (.slice (A2 2) (Ln2 2) (C2 2)) := (by rw [Lib.cell_of_heap E8.out]; rfl); have c83 : w5.cell? ⟨w2.heap.size, 3, none⟩ = some (.slice (A2 3) (Ln2 3) (C2 3)) := (by rw [Lib.cell_of_heap E8.out]; rfl); have c84 : w5.cell? ⟨w2.heap.size, 4, none⟩ = some (.int .i64 N2) := (by rw [Lib.cell_of_heap E8.out]; rfl))
  all_goals
    go_wp2
    refine bodyPost_ret (v := .tuple #[rv A2 Ln2 C2 N2, .bool (cd == cr)]) (by simp [results, Try.results11, go_sem, c60, c61, c62, c63, c64]) rfl ⟨_, _, rfl, fun h => by rw [HCD.out, HCR.out, h]; simp, ?_⟩
    exact does_end HS.out hsz2 ⟨A2, Ln2, C2, by rw [HN2.out], HB2.out⟩ H5.out E6.out _ _ _ _ _
end Go.Proofs.Ytafokloeabjpgaa
