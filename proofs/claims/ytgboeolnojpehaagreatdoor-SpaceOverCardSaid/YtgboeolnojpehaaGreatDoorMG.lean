/- Texts of the same proof, one behind the other: SK, SN, SQ, SR, ST, SU, SV, SW, SX, SY, SZ. -/
import Derived.Test.YtgboeolnojpehaaGreatDoorMF
import Derived.Lib.AppendStr
import Derived.Lib.IndexBytes
import Derived.Deep.RegionHeld3
import Derived.StillTailTactics
/- Numbers as bytes: what a record is written with. -/
set_option maxRecDepth 100000
namespace Go.Proofs.YtgboeolnojpehaaGreatDoor
open Go.RowKit

/-- A number in so many bytes, the highest first. -/
def numB (k n : Nat) : List UInt8 := (List.range k).map fun j => UInt8.ofNat (n / 256 ^ (k - 1 - j))
theorem numB_length (k n : Nat) : (numB k n).length = k := by simp [numB]
theorem numB_get (k n j : Nat) (hj : j < k) : (numB k n)[j]? = some (UInt8.ofNat (n / 256 ^ (k - 1 - j))) := by simp [numB, hj]

/-- Bytes in a row of their own, from block B on. -/
def OwnB (B : Nat) (w : World) (v : Value) (l : List UInt8) : Prop := w.ownsRow B 5 1 v l.length (Lib.byteCells l)
theorem OwnB.below {B : Nat} {w w' : World} {v : Value} {l : List UInt8} (h : OwnB B w v l) (hb : Below w.heap.size w w') : OwnB B w' v l := ownsRow_below h hb
theorem OwnB.shape {B : Nat} {w : World} {v : Value} {l : List UInt8} (h : OwnB B w v l) : ∃ a c, v = .slice a l.length c := by
  rcases h.2 with ⟨h1, h0⟩ | ⟨g, cap, cur, hv, _⟩
  · exact ⟨none, 0, by rw [h1, h0]⟩
  · exact ⟨_, cap, hv⟩
theorem OwnB.nil (B : Nat) (w : World) : OwnB B w (.slice none 0 0) [] := ⟨rfl, .inl ⟨rfl, rfl⟩⟩

theorem byte_of (n r : Nat) : (n : Int) / 2 ^ (8 * r) % 256 = ((UInt8.ofNat (n / 256 ^ r)).toNat : Int) := by
  have e : (256 : Nat) ^ r = 2 ^ (8 * r) := by rw [show (256 : Nat) = 2 ^ 8 from rfl, ← Nat.pow_mul]
  rw [UInt8.toNat_ofNat', e]
  have : ((2 : Int) ^ (8 * r)) = ((2 ^ (8 * r) : Nat) : Int) := by simp
  rw [this]
  omega

theorem Grew.refl (w : World) (v : Value) : Grew w w v v := ⟨⟨rfl, rfl, rfl, Nat.le_refl _, fun _ _ _ => rfl⟩, fun _ hk => .inl hk⟩
theorem Grew.trans {a b c : World} {u v x : Value} (h : Grew a b u v) (k : Grew b c v x) : Grew a c u x := by
  refine ⟨⟨k.1.os.trans h.1.os, k.1.tape.trans h.1.tape, k.1.output.trans h.1.output, Nat.le_trans h.1.size k.1.size, fun i hi hne => ?_⟩, fun i hi => ?_⟩
  · refine (k.1.block i (Nat.lt_of_lt_of_le hi h.1.size) (fun e => ?_)).trans (h.1.block i hi hne)
    rcases h.2 i e.symm with h1 | h1
    · exact hne h1.symm
    · omega
  · rcases k.2 i hi with h1 | h1
    · exact h.2 i h1
    · exact .inr (Nat.le_trans h.1.size h1)
theorem Grew.ofBelow {a b : World} (h : Below a.heap.size a b) (v : Value) : Grew a b v v := ⟨⟨h.os, h.tape, h.output, h.size, fun i hi _ => h.block i hi⟩, fun _ hk => .inl hk⟩
theorem Grew.below {a b : World} {u v : Value} {B : Nat} (h : Grew a b u v) (hB : B ≤ a.heap.size) (hu : ∀ k, u.ownBlock = some k → B ≤ k) : Below B a b :=
  ⟨h.1.os, h.1.tape, h.1.output, h.1.size, fun i hi => h.1.block i (Nat.lt_of_lt_of_le hi hB) (fun e => by have := hu i e.symm; omega)⟩
theorem ownsRow_base {w : World} {e : TypeId} {sz n B : Nat} {v : Value} {xs : List Value} (h : w.ownsRow 0 e sz v n xs) (hB : ∀ k, v.ownBlock = some k → B ≤ k) : w.ownsRow B e sz v n xs :=
  ⟨h.1, h.2.imp id (fun ⟨g, cap, cur, hv, _, r⟩ => ⟨g, cap, cur, hv, hB g (by rw [hv]; rfl), r⟩)⟩
theorem ownsRow_zero {w : World} {e : TypeId} {sz n B : Nat} {v : Value} {xs : List Value} (h : w.ownsRow B e sz v n xs) : w.ownsRow 0 e sz v n xs :=
  ⟨h.1, h.2.imp id (fun ⟨g, cap, cur, hv, _, r⟩ => ⟨g, cap, cur, hv, Nat.zero_le _, r⟩)⟩
theorem OwnB.lt {B : Nat} {w : World} {v : Value} {l : List UInt8} (h : OwnB B w v l) : ∀ k, v.ownBlock = some k → B ≤ k := fun k hk => (World.ownsRow.lt h k hk).1
theorem Grew.own {B : Nat} {a b : World} {u v : Value} (h : Grew a b u v) (hB : B ≤ a.heap.size) (hu : ∀ k, u.ownBlock = some k → B ≤ k) : ∀ k, v.ownBlock = some k → B ≤ k := fun k hk => (h.2 k hk).elim (hu k) (fun e => Nat.le_trans hB e)

set_option maxHeartbeats 3200000 in
theorem number_grew (v : Value) (l : List UInt8) (k n : Nat) (w : World) (h : OwnB 0 w v l) (hk : k ≤ 8) (hl : l.length ≤ 33554432) :
    Calls Tryz.prog 78 #[v, .int .i64 k, .int .u64 n] w fun e w' => ∃ v', e = .returned v' ∧ OwnB 0 w' v' (l ++ numB k n) ∧ Grew w w' v v' := by
  obtain ⟨i0, hi, q0, q1, q2⟩ := info_parts infoByte
  have HO := Lib.hid h
  obtain ⟨a0, c0, rfl⟩ := h.shape
  obtain ⟨L, hL⟩ : ∃ L, L = l.length := ⟨_, rfl⟩
  rw [← hL] at HO hl ⊢
  have HL := Lib.hid hL
  clear h hL
  go_enter Tryz.func78, Tryz.ntmps78
  go_wp2
  go_loopw [0, 7] (fun v i wr => ∃ (j m : Nat) (a : Option Addr) (c : Nat), j ≤ k ∧ m = L + j ∧ v = .slice a m c ∧ (j < k ∧ i = .int .i64 ((k - 1 - j : Nat) : Int) ∨ j = k ∧ i = .int .i64 (-1)) ∧ Hid (OwnB 0 wr (.slice a m c) (l ++ (numB k n).take j)) ∧ Hid (Grew w wr (.slice a0 L c0) (.slice a m c))) (fun _ i _ => (intOf i + 1).toNat)
  case atStart =>
    refine ⟨0, L, a0, c0, by omega, rfl, rfl, ?_, Lib.hid (by rw [List.take_zero, List.append_nil]; exact HO.out), Lib.hid (Grew.refl _ _)⟩
    by_cases hk0 : k = 0
    · subst hk0; exact .inr ⟨rfl, rfl⟩
    · exact .inl ⟨by omega, by rw [show ((k - 1 - 0 : Nat) : Int) = (k : Int) - 1 by omega]⟩
  case round =>
    obtain ⟨j, m, a, c, hj, rfl, rfl, (⟨hlt, rfl⟩ | ⟨rfl, rfl⟩), ho, hb⟩ := hrel
    · obtain ⟨r, hr⟩ : ∃ r, r = k - 1 - j := ⟨_, rfl⟩
      rw [← hr]
      have hr8 : r < 8 := by omega
      have hr0 : (0 : Int) ≤ (r : Int) := by omega
      have HRR := Lib.hid hr
      have HV := Lib.hid (byte_of n r)
      have hrk : r + j + 1 = k := by omega
      have hlen : (l ++ (numB k n).take j).length = L + j := by rw [List.length_append, List.length_take, numB_length, HL.out]; omega
      have HO1 : Hid (wr.ownsRow 0 5 1 (.slice a (L + j) c) (L + j) (Lib.byteCells (l ++ (numB k n).take j))) := Lib.hid (by have := ho.out; unfold OwnB at this; rwa [hlen] at this)
      have HRK := Lib.hid hrk
      obtain ⟨v', w2, hrun, hown', hgrow⟩ := append_own2 (wr.alloc (.cells #[.int .u8 ((n : Int) / 2 ^ (8 * r) % 256)] 5)) 74 74 5 i0 (.int .u8 0) 1 1 Tryz.underlying74 hi q0 q1 q2 rfl (by decide) _ _ _ (HO1.out.alloc _) ⟨wr.heap.size, 0, none⟩ 1 1 [.int .u8 ((n : Int) / 2 ^ (8 * r) % 256)] rfl (by
        intro q u hu
        have hq : q = 0 := by
          have := (List.getElem?_eq_some_iff.1 hu).1
          simp at this
          omega
        subst hq
        simp at hu
        subst hu
        exact Lib.cell_of_heap (w := wr.alloc (.cells #[.int .u8 ((n : Int) / 2 ^ (8 * r) % 256)] 5)) (b := wr.heap.size) (heap_alloc_new wr _) 0) (by intro u hu; simp at hu; subst hu; rfl) (by unfold maxLen; omega) (by omega) (by omega)
      obtain ⟨av', cv', rfl⟩ : ∃ a c, v' = .slice a (L + j + 1) c := by
        rcases hown'.2 with ⟨_, h0⟩ | ⟨g', cap', cur, hv, _⟩
        · omega
        · exact ⟨_, cap', hv⟩
      have HB2 : Hid (Grew w w2 (.slice a0 L c0) (.slice av' (L + j + 1) cv')) := Lib.hid ((hb.out.trans (Grew.ofBelow ((Below.refl _ wr).alloc (Nat.le_refl _) _) _)).trans hgrow)
      have HO2 : Hid (OwnB 0 w2 (.slice av' (L + j + 1) cv') (l ++ (numB k n).take (j + 1))) := Lib.hid (by
        have hg := numB_get k n j (by omega)
        have hjl : j < (numB k n).length := by rw [numB_length]; omega
        rw [List.getElem?_eq_getElem hjl] at hg
        have hg' := Option.some.inj hg
        rw [List.take_succ_eq_append_getElem hjl, hg', ← List.append_assoc]
        unfold OwnB
        have e1 : (l ++ (numB k n).take j ++ [UInt8.ofNat (n / 256 ^ (k - 1 - j))]).length = L + j + 1 := by
          rw [List.length_append, List.length_append, List.length_take, numB_length, HL.out]; simp; omega
        have e2 : Lib.byteCells (l ++ (numB k n).take j ++ [UInt8.ofNat (n / 256 ^ (k - 1 - j))]) = Lib.byteCells (l ++ (numB k n).take j) ++ [.int .u8 ((n : Int) / 2 ^ (8 * r) % 256)] := by
          rw [HV.out, HRR.out]; simp [Lib.byteCells]
        rw [e1, e2]
        exact hown')
      have HRUN := Lib.hid hrun
      clear hr hlen hrk hown' hgrow hrun
      go_wp2_with (at_builtin; refine Lib.wpList_append_run _ rfl _ _ 74 74 rfl _ _ rfl rfl _ _ HRUN.out ?_)
      by_cases hr1 : r = 0
      · subst hr1
        have := HRK.out
        go_wp2
        go_roundw
        case rel => exact ⟨j + 1, L + j + 1, av', cv', by omega, by omega, rfl, .inr ⟨by omega, rfl⟩, HO2, HB2⟩
        case measure => simp [intOf]
      · obtain ⟨r', rfl⟩ : ∃ r', r = r' + 1 := ⟨r - 1, by omega⟩
        have := HRK.out
        go_wp2
        go_roundw
        case rel => exact ⟨j + 1, L + j + 1, av', cv', by omega, by omega, rfl, .inl ⟨by omega, by rw [show k - 1 - (j + 1) = r' by omega] <;> go_num⟩, HO2, HB2⟩
        case measure => simp [intOf]; omega
    · go_wp2
      go_ret
      refine ⟨_, rfl, ?_, hb.out⟩
      have := ho.out
      rwa [List.take_of_length_le (by rw [numB_length]; exact Nat.le_refl _)] at this

theorem number_any (B : Nat) (v : Value) (l : List UInt8) (k n : Nat) (w : World) (h : OwnB B w v l) (hB : B ≤ w.heap.size) (hk : k ≤ 8) (hl : l.length ≤ 33554432) :
    Calls Tryz.prog 78 #[v, .int .i64 k, .int .u64 n] w fun e w' => ∃ v', e = .returned v' ∧ OwnB B w' v' (l ++ numB k n) ∧ Below B w w' := by
  refine (number_grew v l k n w (ownsRow_zero h) hk hl).mono ?_
  rintro e w' ⟨v', he, h1, h2⟩
  exact ⟨v', he, ownsRow_base h1 (h2.own hB h.lt), h2.below hB h.lt⟩
end Go.Proofs.YtgboeolnojpehaaGreatDoor

/- A head as bytes. -/
set_option maxRecDepth 100000
namespace Go.Proofs.YtgboeolnojpehaaGreatDoor
open Go.RowKit

/-- A head's bytes. -/
def hdB (h : Hd) : List UInt8 := numB 2 h.count ++ ((List.range 16).flatMap fun i => numB 4 (h.root i)) ++ ((List.range (h.count / 64 + 1)).flatMap fun i => numB 8 (h.word i))

theorem flat_succ (f : Nat → List UInt8) (k : Nat) : (List.range (k + 1)).flatMap f = (List.range k).flatMap f ++ f k := by
  rw [List.range_succ, List.flatMap_append]; simp
theorem flat_length (f : Nat → List UInt8) (c : Nat) (hf : ∀ i, (f i).length = c) (k : Nat) : ((List.range k).flatMap f).length = c * k := by
  induction k with
  | zero => simp
  | succ k ih => rw [flat_succ, List.length_append, ih, hf, Nat.mul_succ]

theorem run_sliceWords (W : World) (b o n : Nat) (hn : n ≤ 64) : (Instr.sliceAt 34 (.pointer (some ⟨b, o, none⟩)) none (some (.int .i64 n)) none).run Tryz.prog W = .ok (.slice (some ⟨b, o, none⟩) n 64) W := by
  obtain ⟨i, hi, _⟩ := Option.map_eq_some_iff.1 (show (Tryz.prog.info? 33).map (·.size) = some 1 by kernel_rfl)
  simp [Instr.sliceAt, run_underlying Tryz.underlying34, Instr.sureAddr, Instr.sliceBounds, Instr.sliceBound, asIntOf, sizeOf, typeInfo, hi, Result.andThen]
  rw [if_pos hn]
  simp [add_lit']

set_option maxHeartbeats 3200000 in
theorem hbytes_any (b o : Nat) (h : Hd) (w : World) (a : HdAt w b o h) (k : h.Ok) (hb : b < w.heap.size) :
    Calls Tryz.prog 61 #[.pointer (some ⟨b, o, none⟩)] w fun e w' => ∃ v', e = .returned v' ∧ OwnB w.heap.size w' v' (hdB h) ∧ Below w.heap.size w w' := by
  have HA := Lib.hid a
  have HK := Lib.hid k
  have hc := a.count
  have hcnt := k.cnt
  -- the roots, as they are read at one time
  obtain ⟨rs, hrs⟩ : ∃ rs : List Value, rs = h.roots.map (fun x : Nat => Value.int .i64 (x : Int)) := ⟨_, rfl⟩
  have hrl : rs.length = 16 := by rw [hrs]; simp [k.nr]
  have hrv : ∀ i, i < 16 → rs.toArray[i]? = some (.int .i64 (h.root i : Int)) := fun i hi => by
    have h1 : i < h.roots.length := by rw [k.nr]; exact hi
    rw [hrs, List.getElem?_toArray, List.getElem?_map, List.getElem?_eq_getElem h1, Hd.root, List.getD_eq_getElem?_getD, List.getElem?_eq_getElem h1]
    rfl
  have HRG : Hid (∀ W : World, Below w.heap.size w W → W.rangeAt b (o + 65) rs) := Lib.hid (fun W hW j v hv => by
    have hj := (List.getElem?_eq_some_iff.1 hv).1
    rw [hrl] at hj
    have h2 := hrv j hj
    rw [List.getElem?_toArray] at h2
    rw [h2] at hv
    cases hv
    exact (HA.out.block (hW.block b hb)).root HK.out hj)
  have HRI : Hid ((Tryz.prog.info? 35).map (·.size) = some rs.length) := Lib.hid (by rw [hrl]; kernel_rfl)
  obtain ⟨X, hX⟩ : ∃ X, X = rs.toArray := ⟨_, rfl⟩
  have HIX : Hid (∀ i : Nat, i < 16 → ∀ W, (Instr.index 35 (.agg X) (.int .i64 i)).run Tryz.prog W = .ok (.int .i64 (h.root i : Int)) W) := Lib.hid (fun i hi W => run_index_row 35 3 16 _ _ i W (by kernel_rfl) (by kernel_rfl) (by kernel_rfl) hi (by rw [hX]; exact hrv i hi))
  have HX := Lib.hid hX
  obtain ⟨c, hce⟩ : ∃ c, c = h.count := ⟨_, rfl⟩
  rw [← hce] at hc hcnt
  obtain ⟨n, hn⟩ : ∃ n, n = c / 64 + 1 := ⟨_, rfl⟩
  have hn64 : n ≤ 64 := by omega
  have HW : Hid (∀ (W : World), Below w.heap.size w W → Calls Tryz.prog 85 #[.pointer (some ⟨b, o, none⟩)] W fun e w' => e = .returned (.int .i64 n) ∧ w' = W) := Lib.hid (fun W hW => by
    have := words_any b o h W (HA.out.block (hW.block b hb)) HK.out
    rwa [← hce, ← hn] at this)
  have hsl := fun W => run_sliceWords W b (o + 1) n hn64
  have hu64 : IntKind.u64.wrap (c : Int) = (c : Int) := by rw [IntKind.wrap_u64]; omega
  have HC := Lib.hid hc
  have HCE := Lib.hid hce
  have HN := Lib.hid hn
  have HS : Hid (h.root = h.root) := Lib.hid rfl
  have hB0 : w.heap.size ≤ w.heap.size := Nat.le_refl _
  have hnum := number_any w.heap.size (.slice none 0 0) [] 2 c w (OwnB.nil _ _) hB0 (by omega) (by simp)
  have HNUM := Lib.hid hnum
  clear a k hrs hrl hrv hX hce hn HS hnum
  go_enter Tryz.func61, Tryz.ntmps61
  go_wp2_with fail
  refine HNUM.out.mono ?_
  rintro e w1 ⟨v1, rfl, ho1, hb1⟩
  rw [List.nil_append] at ho1
  obtain ⟨a1, c1, rfl⟩ := ho1.shape
  rw [numB_length] at ho1 ⊢
  have HO1 := Lib.hid ho1
  have HB1 := Lib.hid hb1
  clear ho1 hb1
  go_wp2_with (refine wpList_load_mid rfl 35 _ rfl b (o + 65) (by rfl) rs _ (HRG.out _ HB1.out) Tryz.underlying35 rfl HRI.out ?_)
  rw [← HX.out]
  go_wp2
  go_loopw [3, 18] (fun v i wr => ∃ (q m : Nat) (a : Option Addr) (cc : Nat), q ≤ 16 ∧ m = 2 + 4 * q ∧ i = .int .i64 q ∧ v = .slice a m cc ∧ Hid (OwnB w.heap.size wr (.slice a m cc) (numB 2 c ++ (List.range q).flatMap fun i => numB 4 (h.root i))) ∧ Hid (Below w.heap.size w wr)) (fun _ i _ => 16 - (intOf i).toNat)
  case atStart => exact ⟨0, 2, a1, c1, by omega, rfl, rfl, rfl, Lib.hid (by simpa using HO1.out), HB1⟩
  case round =>
    obtain ⟨q, m, a, cc, hq, rfl, rfl, rfl, ho, hbw⟩ := hrel
    by_cases hlt : q < 16
    · have hix := HIX.out q hlt wr
      have hr31 := HK.out.rt q
      obtain ⟨r, hr⟩ : ∃ r, r = h.root q := ⟨_, rfl⟩
      rw [← hr] at hix hr31
      have hur : IntKind.u64.wrap (r : Int) = (r : Int) := by rw [IntKind.wrap_u64]; omega
      have hq16 : (q : Int) < 16 := by omega
      have hnum := number_any w.heap.size _ _ 4 r wr ho.out hbw.out.size (by omega) (by
        rw [List.length_append, numB_length, flat_length _ 4 (fun i => numB_length 4 _)]; omega)
      rw [List.append_assoc, hr, ← flat_succ (fun i => numB 4 (h.root i)) q, ← hr] at hnum
      have HNM := Lib.hid hnum
      clear hnum hr31 hr
      go_wp2_with fail
      refine HNM.out.mono ?_
      rintro e w2 ⟨v2, rfl, ho2, hb2⟩
      obtain ⟨a2, c2, rfl⟩ := ho2.shape
      have hl2 : (numB 2 c ++ (List.range (q + 1)).flatMap fun i => numB 4 (h.root i)).length = 2 + 4 * (q + 1) := by rw [List.length_append, numB_length, flat_length _ 4 (fun i => numB_length 4 _)]
      rw [hl2] at ho2 ⊢
      have HO2 := Lib.hid ho2
      have HB2 := Lib.hid (hbw.out.trans hb2)
      clear ho2 hb2 hl2
      go_wp2
      go_roundw
      case rel => exact ⟨q + 1, 2 + 4 * (q + 1), a2, c2, by omega, rfl, by go_num, rfl, HO2, HB2⟩
      case measure => simp [intOf]; omega
    · have hge : ¬ ((q : Int) < 16) := by omega
      have HQ : Hid (q = 16) := Lib.hid (by omega)
      have hw16 := HW.out
      have HW2 : Hid (∀ n', Calls Tryz.prog 85 #[.pointer (some ⟨b, o, none⟩)] (wr.drewN n') fun e w' => e = .returned (.int .i64 n) ∧ w' = wr.drewN n') := Lib.hid (fun n' => HW.out _ (hbw.out.trans ((below_drewN wr n').mono hbw.out.size)))
      clear hw16
      go_wp2_with fail
      go_quiet ((go_at_call 85; exact Calls.quiet_of_same (HW2.out _)))
      have HST : Hid (∀ n', OwnB w.heap.size (wr.drewN n') (.slice a (2 + 4 * q) cc) (numB 2 c ++ (List.range 16).flatMap fun i => numB 4 (h.root i)) ∧ Below w.heap.size w (wr.drewN n')) := Lib.hid (fun n' => ⟨by have := ho.out.below (below_drewN wr n'); rwa [show List.range q = List.range 16 by rw [HQ.out]] at this, hbw.out.trans ((below_drewN wr n').mono hbw.out.size)⟩)
      have hm66 : 66 + 8 * 0 = 2 + 4 * q := by have := HQ.out; omega
      have HM66 := Lib.hid hm66
      clear ho hbw hlt hm66
      go_wp2
      go_loopw [3, 33] (fun v i wr => ∃ (q m : Nat) (a : Option Addr) (cc : Nat), q ≤ n ∧ m = 66 + 8 * q ∧ i = .int .i64 q ∧ v = .slice a m cc ∧ Hid (OwnB w.heap.size wr (.slice a m cc) ((numB 2 c ++ (List.range 16).flatMap fun i => numB 4 (h.root i)) ++ (List.range q).flatMap fun i => numB 8 (h.word i))) ∧ Hid (Below w.heap.size w wr)) (fun _ i _ => n - (intOf i).toNat)
      case atStart => exact ⟨0, 2 + 4 * q, a, cc, by omega, HM66.out.symm, rfl, rfl, Lib.hid (by simpa using (HST.out _).1), Lib.hid (HST.out _).2⟩
      case round =>
        obtain ⟨q, m, a, cc, hq, rfl, rfl, rfl, ho, hbw⟩ := hrel
        by_cases hlt : q < n
        · have hcw := (HA.out.block (hbw.out.block b hb)).word HK.out (show q < 64 by omega)
          obtain ⟨r, hr⟩ : ∃ r, r = h.word q := ⟨_, rfl⟩
          rw [← hr] at hcw
          have hqn : (q : Int) < n := by omega
          have hnum := number_any w.heap.size _ _ 8 r wr ho.out hbw.out.size (by omega) (by
            rw [List.length_append, List.length_append, numB_length, flat_length _ 4 (fun i => numB_length 4 _), flat_length _ 8 (fun i => numB_length 8 _)]; omega)
          rw [List.append_assoc, hr, ← flat_succ (fun i => numB 8 (h.word i)) q, ← hr] at hnum
          have HNM := Lib.hid hnum
          clear hnum hr
          go_wp2_with fail
          refine HNM.out.mono ?_
          rintro e w2 ⟨v2, rfl, ho2, hb2⟩
          obtain ⟨a2, c2, rfl⟩ := ho2.shape
          have hl2 : ((numB 2 c ++ (List.range 16).flatMap fun i => numB 4 (h.root i)) ++ (List.range (q + 1)).flatMap fun i => numB 8 (h.word i)).length = 66 + 8 * (q + 1) := by rw [List.length_append, List.length_append, numB_length, flat_length _ 4 (fun i => numB_length 4 _), flat_length _ 8 (fun i => numB_length 8 _)]
          rw [hl2] at ho2 ⊢
          have HO2 := Lib.hid ho2
          have HB2 := Lib.hid (hbw.out.trans hb2)
          clear ho2 hb2 hl2
          go_wp2
          go_roundw
          case rel => exact ⟨q + 1, 66 + 8 * (q + 1), a2, c2, by omega, rfl, by go_num, rfl, HO2, HB2⟩
          case measure => simp [intOf]; omega
        · obtain rfl : q = n := by omega
          go_wp2
          go_ret
          refine ⟨_, rfl, ?_, hbw.out⟩
          unfold hdB
          rw [← HCE.out, ← HN.out]
          exact ho.out
end Go.Proofs.YtgboeolnojpehaaGreatDoor

/- A record of an action: its bytes. -/
set_option maxRecDepth 100000
namespace Go.Proofs.YtgboeolnojpehaaGreatDoor
open Go.RowKit

/-- A patch. -/
structure Pt where
  page : Nat
  at_ : Nat
  s : ByteArray
def Pt.cells (p : Pt) : List Value := [.int .i64 p.page, .int .i64 p.at_, .string p.s]
/-- Patches in a row of their own. -/
def PtsAt (B : Nat) (w : World) (v : Value) (ps : List Pt) : Prop := w.ownsRow B 128 3 v ps.length (ps.flatMap Pt.cells)
theorem PtsAt.below {B : Nat} {w w' : World} {v : Value} {ps : List Pt} (h : PtsAt B w v ps) (hb : Below w.heap.size w w') : PtsAt B w' v ps := ownsRow_below h hb
theorem PtsAt.shape {B : Nat} {w : World} {v : Value} {ps : List Pt} (h : PtsAt B w v ps) : ∃ a c, v = .slice a ps.length c := by
  rcases h.2 with ⟨h1, h0⟩ | ⟨g, cap, cur, hv, _⟩
  · exact ⟨none, 0, by rw [h1, h0]⟩
  · exact ⟨_, cap, hv⟩
theorem flat3 (ps : List Pt) (k : Nat) (hk : k < ps.length) (j : Nat) (hj : j < 3) : (ps.flatMap Pt.cells)[k * 3 + j]? = ps[k].cells[j]? := by
  induction ps generalizing k with
  | nil => simp at hk
  | cons p r ih =>
    rw [List.flatMap_cons]
    have hl : p.cells.length = 3 := rfl
    cases k with
    | zero => rw [List.getElem?_append_left (by omega)]; simp
    | succ k =>
      rw [List.getElem?_append_right (by omega), show (k + 1) * 3 + j - p.cells.length = k * 3 + j by omega, ih k (by simpa using hk)]
      rfl
/-- The cells of one. -/
theorem PtsAt.at {B : Nat} {w : World} {a : Option Addr} {n c : Nat} {ps : List Pt} (h : PtsAt B w (.slice a n c) ps) {k : Nat} (hk : k < ps.length) :
    ∃ g, a = some ⟨g, 0, none⟩ ∧ B ≤ g ∧ g < w.heap.size ∧ w.cell? ⟨g, k * 3, none⟩ = some (.int .i64 ps[k].page) ∧ w.cell? ⟨g, k * 3 + 1, none⟩ = some (.int .i64 ps[k].at_) ∧ w.cell? ⟨g, k * 3 + 2, none⟩ = some (.string ps[k].s) := by
  rcases h.2 with ⟨_, h0⟩ | ⟨g, cap, cur, hv, hB, hg, _⟩
  · omega
  · injection hv with hv _ _
    subst hv
    have hc : ∀ j, j < 3 → w.cell? ⟨g, k * 3 + j, none⟩ = ps[k].cells[j]? := fun j hj => by
      have := h.cells (g := g) rfl (k * 3 + j)
      cases hv : ps[k].cells[j]? with
      | none => have : ps[k].cells.length = 3 := rfl; rw [List.getElem?_eq_none_iff] at hv; omega
      | some u =>
        have := this u (by rw [flat3 ps k hk j hj, hv])
        rwa [add_lit', Nat.zero_add] at this
    exact ⟨g, rfl, hB, (Array.getElem?_eq_some_iff.1 hg).1, hc 0 (by omega), hc 1 (by omega), hc 2 (by omega)⟩

/-- A patch's bytes, a record's. -/
def ptB (p : Pt) : List UInt8 := numB 2 p.page ++ numB 2 p.at_ ++ numB 2 p.s.size ++ p.s.data.toList
def recB (h : Hd) (ps : List Pt) : List UInt8 := hdB h ++ ps.flatMap ptB

theorem ptB_le (p : Pt) : ∀ ps : List Pt, p ∈ ps → p.s.size ≤ (ps.flatMap ptB).length
  | q :: r, h => by
    rw [List.flatMap_cons, List.length_append]
    rcases List.mem_cons.1 h with rfl | h
    · have : p.s.data.toList.length = p.s.size := rfl
      unfold ptB
      simp only [List.length_append]
      omega
    · have := ptB_le p r h
      omega

theorem numLen {l : List UInt8} (h : l.length ≤ 16777216) (k n : Nat) : (l ++ numB k n).length ≤ 16777216 + k := by rw [List.length_append, numB_length]; omega

theorem OwnB.conv {B : Nat} {w : World} {a : Option Addr} {n c : Nat} {l : List UInt8} (h : OwnB B w (.slice a n c) l) (hn : l.length = n) : (convert 74 9 (.slice a n c)).run Tryz.prog w = .ok (.string ⟨l.toArray⟩) w := by
  have hb : Bytes w (.slice a n c) l := ownsRow_zero h
  have := convert_bytes w _ l hb 0 n (by omega) a c (fun h0 => by
    rcases h.2 with ⟨_, e⟩ | ⟨g, cap, cur, hv, _⟩
    · omega
    · injection hv with hv _ _
      exact ⟨g, by rw [hv]; rfl, hv⟩)
  rw [this, List.drop_zero, List.take_of_length_le (by omega)]

theorem acc_next (l : List UInt8) (r : List Pt) (pg pa : Nat) (s : ByteArray) : l ++ (r ++ ([⟨pg, pa, s⟩] : List Pt)).flatMap ptB = (l ++ r.flatMap ptB ++ numB 2 pg ++ numB 2 pa ++ numB 2 s.size) ++ s.data.toList := by
  have e : ptB ⟨pg, pa, s⟩ = numB 2 pg ++ numB 2 pa ++ numB 2 s.size ++ s.data.toList := rfl
  rw [List.flatMap_append, List.flatMap_cons, List.flatMap_nil, List.append_nil, e]
  simp only [List.append_assoc]
theorem byteCells_str (l : List UInt8) (s : ByteArray) : Lib.byteCells (l ++ s.data.toList) = Lib.byteCells l ++ Lib.strCells s := by
  unfold Lib.byteCells Lib.strCells
  rw [List.map_append]
theorem len_str (l : List UInt8) (s : ByteArray) : (l ++ s.data.toList).length = l.length + s.size := by
  rw [List.length_append]; rfl

set_option maxHeartbeats 3200000 in
theorem recordOf_any (B : Nat) (h : Hd) (v : Value) (ps : List Pt) (w : World) (k : h.Ok) (hp : PtsAt B w v ps) (hl : (recB h ps).length ≤ 16777216) (hp2 : ∀ p ∈ ps, p.page < 65536 ∧ p.at_ < 65536) :
    Calls Tryz.prog 56 #[.agg h.cells.toArray, v] w fun e w' => e = .returned (.string ⟨(recB h ps).toArray⟩) ∧ Below w.heap.size w w' := by
  obtain ⟨i0, hi, q0, q1, q2⟩ := info_parts infoByte
  obtain ⟨va, vc, rfl⟩ := hp.shape
  obtain ⟨X, hX⟩ : ∃ X, X = h.cells.toArray := ⟨_, rfl⟩
  rw [← hX]
  obtain ⟨w1, hw1⟩ : ∃ w1, w1 = w.alloc (.cells X 37) := ⟨_, rfl⟩
  have hb1 : Below w.heap.size w w1 := by rw [hw1]; exact (Below.refl _ _).alloc (Nat.le_refl _) _
  have hnew : w1.heap[w.heap.size]? = some (.cells X 37 (0, 0)) := by rw [hw1]; exact heap_alloc_new w _
  have hA1 : HdAt w1 w.heap.size 0 h := fun j u hu => by
    rw [Nat.zero_add, Lib.cell_of_heap hnew, hX, List.getElem?_toArray]; exact hu
  have hsz1 : w1.heap.size = w.heap.size + 1 := by rw [hw1]; simp
  have HHB := Lib.hid (hbytes_any w.heap.size 0 h w1 hA1 k (by omega))
  rw [hw1] at HHB
  have HP := Lib.hid hp
  obtain ⟨n, hn⟩ : ∃ n, n = ps.length := ⟨_, rfl⟩
  have HN := Lib.hid hn
  have HL := Lib.hid hl
  have HP2 := Lib.hid hp2
  have HB1 := Lib.hid hb1
  have HSZ := Lib.hid hsz1
  have HW1 := Lib.hid hw1
  rw [← hn]
  have hn63 : n ≤ 9223372036854775807 := by
    rcases hp.2 with ⟨_, h0⟩ | ⟨g, cap, cur, hv, _, _, h1, h2, _⟩
    · omega
    · unfold maxLen at h2; omega
  clear k hp hl hX hw1 hb1 hnew hA1 hsz1 hn hp2
  go_enter Tryz.func56, Tryz.ntmps56
  go_wp2_with fail
  refine HHB.out.mono ?_
  rintro e w2 ⟨v2, rfl, ho2, hb2⟩
  rw [← HW1.out] at ho2 hb2
  obtain ⟨B2, hB2⟩ : ∃ B2, B2 = w1.heap.size := ⟨_, rfl⟩
  rw [← hB2] at ho2 hb2
  have HB2 := Lib.hid hb2
  have HBE := Lib.hid hB2
  obtain ⟨a2, c2, rfl⟩ := ho2.shape
  obtain ⟨m2, hm2⟩ : ∃ m2, m2 = (hdB h).length := ⟨_, rfl⟩
  rw [← hm2] at ho2 ⊢
  have HO2 := Lib.hid ho2
  have HM2 := Lib.hid hm2
  clear ho2 hb2 hB2 hm2
  go_wp2
  go_loopw [5, 13] (fun v i wr => ∃ (q m : Nat) (a : Option Addr) (cc : Nat), q ≤ n ∧ i = .int .i64 q ∧ v = .slice a m cc ∧ Hid (m = (hdB h ++ (ps.take q).flatMap ptB).length) ∧ Hid (OwnB B2 wr (.slice a m cc) (hdB h ++ (ps.take q).flatMap ptB)) ∧ Hid (Below B2 w1 wr)) (fun _ i _ => n - (intOf i).toNat)
  case atStart => exact ⟨0, m2, a2, c2, by omega, rfl, rfl, Lib.hid (by rw [HM2.out]; simp), Lib.hid (by simpa using HO2.out), HB2⟩
  case round =>
    obtain ⟨q, m, a, cc, hq, rfl, rfl, hm, ho, hbw⟩ := hrel
    by_cases hlt : q < n
    · have hlt' : q < ps.length := by rw [← HN.out]; exact hlt
      have hqn : (q : Int) < n := by omega
      have hbB : Below w.heap.size w wr := HB1.out.trans (hbw.out.mono (by rw [HBE.out, HSZ.out]; omega))
      obtain ⟨g, rfl, hBg, hgl, e0, e1, e2⟩ := (HP.out.below hbB).at (by rw [← HN.out] at hlt'; exact (show q < ps.length by rw [← HN.out]; exact hlt))
      obtain ⟨p, hpe⟩ : ∃ p, p = ps[q] := ⟨_, rfl⟩
      have hmem : p ∈ ps := by rw [hpe]; exact List.getElem_mem hlt'
      rw [← hpe] at e0 e1 e2
      obtain ⟨hpp1, hpp2⟩ := HP2.out p hmem
      have hss : p.s.size ≤ 16777216 := by
        have h1 := HL.out
        have h2 := ptB_le p ps hmem
        unfold recB at h1
        rw [List.length_append] at h1
        omega
      have HTK : Hid (ps.take (q + 1) = ps.take q ++ [p]) := Lib.hid (by rw [List.take_succ_eq_append_getElem hlt', hpe])
      have hll : (hdB h ++ (ps.take q).flatMap ptB).length ≤ 16777216 := by
        have h1 := HL.out
        have h2 : ((ps.take q).flatMap ptB).length ≤ (ps.flatMap ptB).length := by
          have : ps.flatMap ptB = (ps.take q).flatMap ptB ++ (ps.drop q).flatMap ptB := by rw [← List.flatMap_append, List.take_append_drop]
          rw [this, List.length_append]; omega
        unfold recB at h1
        rw [List.length_append] at h1 ⊢
        omega
      have HLL := Lib.hid hll
      clear hpe hmem hll hlt'
      obtain ⟨pg, pa, s⟩ := p
      simp only at e0 e1 e2 hpp1 hpp2 hss
      have u1 : IntKind.u64.wrap (pg : Int) = (pg : Int) := by rw [IntKind.wrap_u64]; omega
      have u2 : IntKind.u64.wrap (pa : Int) = (pa : Int) := by rw [IntKind.wrap_u64]; omega
      have u3 : IntKind.u64.wrap (s.size : Int) = (s.size : Int) := by rw [IntKind.wrap_u64]; omega
      have i3 : ∀ (x y z : Value) (W : World), (Instr.index 139 (.agg #[x, y, z]) (.int .i64 0)).run Tryz.prog W = .ok x W := fun _ _ _ _ => by kernel_rfl
      have i4 : ∀ (x y z : Value) (W : World), (Instr.index 139 (.agg #[x, y, z]) (.int .i64 1)).run Tryz.prog W = .ok y W := fun _ _ _ _ => by kernel_rfl
      have i5 : ∀ (x y z : Value) (W : World), (Instr.index 139 (.agg #[x, y, z]) (.int .i64 2)).run Tryz.prog W = .ok z W := fun _ _ _ _ => by kernel_rfl
      go_wp2_with fail
      have HLT : Hid (∀ k, (Value.slice a m cc).ownBlock = some k → B2 ≤ k ∧ k < wr.heap.size) := Lib.hid (fun k hk => World.ownsRow.lt ho.out k hk)
      have HSB : Hid (B2 ≤ wr.heap.size) := Lib.hid (by rw [HBE.out]; exact hbw.out.size)
      refine wp_loop_rounds 4 ?_
      rw [rounds_succ]
      go_wp2_with fail
      refine (number_grew (.slice a m cc) _ 2 pg _ (ownsRow_zero (ho.out.alloc _)) (by omega) (by have := HLL.out; omega)).mono ?_
      rintro e w3 ⟨v3, rfl, o3, g3⟩
      obtain ⟨a3, c3, rfl⟩ := o3.shape
      have hl3 := numLen HLL.out 2 pg
      obtain ⟨m3, hm3⟩ : ∃ m3, m3 = (hdB h ++ (ps.take q).flatMap ptB ++ numB 2 pg).length := ⟨_, rfl⟩
      rw [← hm3] at o3 g3 ⊢
      have O3 := Lib.hid o3; have G3 := Lib.hid g3; have M3 := Lib.hid hm3; have L3 := Lib.hid hl3
      clear o3 g3 hm3 hl3
      go_wp2
      rw [rounds_succ]
      go_wp2_with fail
      refine (number_grew (.slice a3 m3 c3) _ 2 pa _ O3.out (by omega) (by have := L3.out; omega)).mono ?_
      rintro e w4 ⟨v4, rfl, o4, g4⟩
      obtain ⟨a4, c4, rfl⟩ := o4.shape
      obtain ⟨m4, hm4⟩ : ∃ m4, m4 = (hdB h ++ (ps.take q).flatMap ptB ++ numB 2 pg ++ numB 2 pa).length := ⟨_, rfl⟩
      rw [← hm4] at o4 g4 ⊢
      have hl4 : (hdB h ++ (ps.take q).flatMap ptB ++ numB 2 pg ++ numB 2 pa).length ≤ 33554432 := by have := L3.out; rw [List.length_append, numB_length]; omega
      have O4 := Lib.hid o4; have G4 := Lib.hid (G3.out.trans g4); have M4 := Lib.hid hm4; have L4 := Lib.hid hl4
      clear o4 g4 hm4 hl4
      go_wp2
      rw [rounds_succ]
      go_wp2_with fail
      refine (number_grew (.slice a4 m4 c4) _ 2 s.size _ O4.out (by omega) L4.out).mono ?_
      rintro e w5 ⟨v5, rfl, o5, g5⟩
      obtain ⟨a5, c5, rfl⟩ := o5.shape
      obtain ⟨m5, hm5⟩ : ∃ m5, m5 = (hdB h ++ (ps.take q).flatMap ptB ++ numB 2 pg ++ numB 2 pa ++ numB 2 s.size).length := ⟨_, rfl⟩
      rw [← hm5] at o5 g5 ⊢
      have hl5 : m5 ≤ 33554432 := by have := L3.out; rw [hm5, List.length_append, List.length_append, numB_length, numB_length]; omega
      have hg5 := G4.out.trans g5
      -- the patch's own copy stands
      have hblk : w5.heap[wr.heap.size]? = some (.cells #[.int .i64 pg, .int .i64 pa, .string s] 128 (0, 0)) := by
        rw [hg5.1.block wr.heap.size (by simp) (fun e => by have := (HLT.out _ e.symm).2; omega)]
        exact heap_alloc_new wr _
      have cs5 : w5.cell? ⟨wr.heap.size, 2, none⟩ = some (.string s) := by rw [Lib.cell_of_heap hblk]; rfl
      have hown5 : OwnB B2 w5 (.slice a5 m5 c5) (hdB h ++ (ps.take q).flatMap ptB ++ numB 2 pg ++ numB 2 pa ++ numB 2 s.size) :=
        ownsRow_base o5 (hg5.own (B := B2) (by simp; have := HSB.out; omega) (fun k hk => (HLT.out k hk).1))
      have hb5 : Below B2 w1 w5 := hbw.out.trans (by
        have h1 : Below B2 wr (wr.alloc (.cells #[.int .i64 pg, .int .i64 pa, .string s] 128)) := (Below.refl _ wr).alloc HSB.out _
        exact h1.trans (hg5.below (by simp; have := HSB.out; omega) (fun k hk => (HLT.out k hk).1)))
      have HO5 : Hid (w5.ownsRow B2 5 1 (.slice a5 m5 c5) m5 (Lib.byteCells (hdB h ++ (ps.take q).flatMap ptB ++ numB 2 pg ++ numB 2 pa ++ numB 2 s.size))) := Lib.hid (by have := hown5; unfold OwnB at this; rwa [← hm5] at this)
      have HB5 := Lib.hid hb5
      have HM5 := Lib.hid hm5
      have hB5 : B2 ≤ w5.heap.size := by rw [HBE.out]; exact hb5.size
      clear o5 g5 hm5 hg5 hblk hown5 hb5
      obtain ⟨acc, hac⟩ : ∃ acc, acc = hdB h ++ (ps.take q).flatMap ptB ++ numB 2 pg ++ numB 2 pa ++ numB 2 s.size := ⟨_, rfl⟩
      rw [← hac] at HO5 HM5
      have HAC := Lib.hid hac
      clear hac
      go_wp2
      rw [rounds_succ]
      go_wp2_with (at_builtin; refine Lib.wpList_append_own_string _ rfl _ _ 74 9 rfl B2 5 i0 Tryz.underlying74 Tryz.underlying9 hi q0 q1 q2 _ _ _ rfl HO5.out s rfl ?c1 ?c2 ?c3 ?_)
      case c1 => unfold maxLen; omega
      case c2 => omega
      case c3 => exact hB5
      intro v6 w6 hown6 hgrow6 _
      obtain ⟨a6, c6, rfl⟩ : ∃ a c, v6 = .slice a (m5 + s.size) c := by
        rcases hown6.2 with ⟨h1, h0⟩ | ⟨g', cap', cur, hv, _⟩
        · exact ⟨none, 0, by rw [h1, h0]⟩
        · exact ⟨_, cap', hv⟩
      have hacc := acc_next (hdB h) (ps.take q) pg pa s
      rw [← HTK.out] at hacc
      have hm5 := HM5.out
      rw [← HAC.out] at hacc
      have HM6 : Hid (m5 + s.size = (hdB h ++ (ps.take (q + 1)).flatMap ptB).length) := Lib.hid (by rw [hacc, len_str, ← hm5])
      have HO6 : Hid (OwnB B2 w6 (.slice a6 (m5 + s.size) c6) (hdB h ++ (ps.take (q + 1)).flatMap ptB)) := Lib.hid (by
        unfold OwnB
        rw [← HM6.out, hacc, byteCells_str]
        exact hown6)
      have HB6 : Hid (Below B2 w1 w6) := Lib.hid (HB5.out.trans ⟨hgrow6.os, hgrow6.tape, hgrow6.output, hgrow6.size, fun i hi => hgrow6.block i (by omega) (fun e => by have := (HO5.out.lt i e.symm).1; omega)⟩)
      clear hown6 hgrow6 hacc hm5
      go_wp2
      go_roundw
      case rel => exact ⟨q + 1, m5 + s.size, a6, c6, by omega, by go_num, rfl, HM6, HO6, HB6⟩
      case measure => simp [intOf]; omega
    · obtain rfl : q = n := by omega
      have hcv := ho.out.conv hm.out.symm
      have HE : Hid (hdB h ++ (ps.take q).flatMap ptB = recB h ps) := Lib.hid (by rw [HN.out, List.take_length]; rfl)
      have hbB : Below w.heap.size w wr := HB1.out.trans (hbw.out.mono (by rw [HBE.out, HSZ.out]; omega))
      have HBB := Lib.hid hbB
      rw [HE.out] at hcv
      clear hbB
      go_wp2
      go_ret
      exact ⟨rfl, HBB.out⟩
end Go.Proofs.YtgboeolnojpehaaGreatDoor

/- What is left of a record that is read: take, number. -/
set_option maxRecDepth 100000
namespace Go.Proofs.YtgboeolnojpehaaGreatDoor
open Go.RowKit

/-- What is left lies at block r. -/
structure RestAt (w : World) (r : Nat) (s : ByteArray) (sh : Bool) : Prop where
  b : w.cell? ⟨r, 0, none⟩ = some (.string s)
  short : w.cell? ⟨r, 1, none⟩ = some (.bool sh)
  froz : ∀ j, w.frozen? ⟨r, j, none⟩ = false
theorem RestAt.lt {w : World} {r : Nat} {s : ByteArray} {sh : Bool} (h : RestAt w r s sh) : r < w.heap.size := World.block_lt_of_cell? w _ h.b
theorem RestAt.block {w w' : World} {r : Nat} {s : ByteArray} {sh : Bool} (h : RestAt w r s sh) (hb : w'.heap[r]? = w.heap[r]?) : RestAt w' r s sh :=
  ⟨(World.cell?_of_block hb).trans h.b, (World.cell?_of_block hb).trans h.short, fun j => (World.frozen?_of_block hb).trans (h.froz j)⟩
theorem RestAt.below {w w' : World} {r : Nat} {s : ByteArray} {sh : Bool} (h : RestAt w r s sh) (hb : Below w.heap.size w w') : RestAt w' r s sh := h.block (hb.block r h.lt)

/-- What is taken, what is left. -/
def rTk (l : List UInt8) (sh : Bool) (n : Nat) : List UInt8 × List UInt8 × Bool := if l.length < n then ([], [], true) else (l.take n, l.drop n, sh)

/-- What a step of reading leaves. -/
def RestPost (r : Nat) (x : List UInt8 × Bool) (w w' : World) : Prop := (∃ s, RestAt w' r s x.2 ∧ s.data.toList = x.1) ∧ Kept (fun k => k = r) w w'

set_option maxHeartbeats 800000 in
theorem rtake_any (r : Nat) (s : ByteArray) (sh : Bool) (n : Nat) (w : World) (h : RestAt w r s sh) :
    Calls Tryz.prog 91 #[.pointer (some ⟨r, 0, none⟩), .int .i64 n] w fun e w' => ∃ t, e = .returned (.string t) ∧ t.data.toList = (rTk s.data.toList sh n).1 ∧ RestPost r (rTk s.data.toList sh n).2 w w' := by
  have c0 := h.b
  have f0 := h.froz 0
  have f1 := h.froz 1
  have c1 := h.short
  have hsl : s.data.toList.length = s.size := rfl
  by_cases hlt : s.size < n
  · have hr : rTk s.data.toList sh n = ([], [], true) := by rw [rTk, if_pos (by rw [hsl]; exact hlt)]
    rw [hr]
    have HE : Hid (RestPost r ([], true) w ((w.setCell ⟨r, 0, none⟩ (.string ⟨#[]⟩)).setCell ⟨r, 1, none⟩ (.bool true))) := Lib.hid ⟨⟨⟨#[]⟩, ⟨by
      rw [World.cell?_setCell_other _ _ _ _ (fun e => by injection e with _ e _; omega)]; exact World.cell?_setCell_same _ _ _ c0, World.cell?_setCell_same _ _ _ ((World.cell?_setCell_other w ⟨r, 0, none⟩ ⟨r, 1, none⟩ _ (fun e => by injection e with _ e _; omega)).trans c1), fun j => by rw [World.frozen?_setCell, World.frozen?_setCell]; exact h.froz j⟩, rfl⟩,
      (Kept.setCell (fun k => k = r) w (b := r) rfl _).trans (Kept.setCell (fun k => k = r) _ (b := r) rfl _) (fun _ hi => .inl hi)⟩
    have hgt : (s.size : Int) < n := by omega
    clear h hr hsl
    go_enter Tryz.func91, Tryz.ntmps91
    go_wp2
    go_ret
    exact ⟨⟨#[]⟩, rfl, rfl, HE.out⟩
  · have hr : rTk s.data.toList sh n = (s.data.toList.take n, s.data.toList.drop n, sh) := by rw [rTk, if_neg (by rw [hsl]; exact hlt)]
    rw [hr]
    have HE : Hid (∀ t, t = s.extract n s.size → RestPost r (s.data.toList.drop n, sh) w (w.setCell ⟨r, 0, none⟩ (.string t))) := Lib.hid (fun t ht => ⟨⟨t, ⟨World.cell?_setCell_same _ _ _ c0, (World.cell?_setCell_other _ _ _ _ (fun e => by injection e with _ e _; omega)).trans c1, fun j => by rw [World.frozen?_setCell]; exact h.froz j⟩, by rw [ht]; exact Lib.extract_to_end s n⟩, Kept.setCell (fun k => k = r) w (b := r) rfl _⟩)
    have HT : Hid ((s.extract 0 n).data.toList = s.data.toList.take n) := Lib.hid (by rw [Lib.extract_data]; simp)
    have hge : (n : Int) ≤ s.size := by omega
    clear h hr hsl
    go_enter Tryz.func91, Tryz.ntmps91
    go_wp2
    go_ret
    exact ⟨_, rfl, HT.out, HE.out _ rfl⟩

theorem ret_u64 {a b : Int} (h : a = b) : Ending.returned (.int .u64 a) = .returned (.int .u64 b) := by rw [h]
theorem or_u64 (N : Nat) (b : Nat) (hN : N < 72057594037927936) (hb : b < 256) : bits BinOp.or IntKind.u64 ((N : Int) * 256) (b : Int) = ((N * 256 + b : Nat) : Int) := by
  have e : (N : Int) * 256 = ((N * 256 : Nat) : Int) := by omega
  rw [e, bits_or_u64_nat _ _ (by omega) (by omega)]
  have : N * 256 ||| b = N * 256 + b := by
    have := Nat.shiftLeft_add_eq_or_of_lt (i := 8) (b := b) (by omega) N
    rw [Nat.shiftLeft_eq] at this
    exact this.symm
  rw [this]

set_option maxHeartbeats 1600000 in
theorem rnumber_any (r : Nat) (s : ByteArray) (sh : Bool) (k : Nat) (w : World) (h : RestAt w r s sh) (hk : k ≤ 8) :
    Calls Tryz.prog 90 #[.pointer (some ⟨r, 0, none⟩), .int .i64 k] w fun e w' => e = .returned (.int .u64 (v4 (rTk s.data.toList sh k).1)) ∧ RestPost r (rTk s.data.toList sh k).2 w w' := by
  have HT := Lib.hid (rtake_any r s sh k w h)
  have hlen : (rTk s.data.toList sh k).1.length ≤ 8 := by
    unfold rTk
    split
    · simp
    · have := List.length_take_le k s.data.toList; simp only; omega
  obtain ⟨l, hl⟩ : ∃ l, l = (rTk s.data.toList sh k).1 := ⟨_, rfl⟩
  rw [← hl] at HT hlen ⊢
  obtain ⟨x, hx⟩ : ∃ x, x = (rTk s.data.toList sh k).2 := ⟨_, rfl⟩
  rw [← hx] at HT ⊢
  clear h hl hx
  go_enter Tryz.func90, Tryz.ntmps90
  go_wp2_with fail
  refine HT.out.mono ?_
  rintro e w1 ⟨t, rfl, ht, hp⟩
  obtain ⟨c, W, hcv, hc, hR, hbW⟩ := bytesOf_reads w1 t
  rw [ht] at hR
  have hts : t.size = l.length := by rw [← ht]; rfl
  obtain ⟨L, hL⟩ : ∃ L, L = t.size := ⟨_, rfl⟩
  rw [← hL] at hcv hts
  have HLL := Lib.hid hts
  have hL8 : L ≤ 8 := by omega
  have HE : Hid (∀ n, RestPost r x w (W.drewN n)) := Lib.hid (fun n => by
    have hb := hbW.trans ((below_drewN W n).mono hbW.size)
    exact ⟨hp.1.imp (fun _ h => ⟨h.1.below hb, h.2⟩), hp.2.trans (Kept.ofBelow (S := fun k => k = r) hb) (fun _ hi => .inl hi)⟩)
  have HR := Lib.hid hR
  clear hp hc hR hbW ht hts hL
  go_wp2
  go_loop [5, 13] (fun n i => ∃ k : Nat, k ≤ L ∧ i = .int .i64 k ∧ n = .int .u64 (v4 (l.take k))) (fun _ i => L - (intOf i).toNat)
  case atStart => exact ⟨0, by omega, rfl, rfl⟩
  case round =>
    obtain ⟨k, hk, rfl, rfl⟩ := hrel
    by_cases hlt : k < L
    · have hlt2 : k < l.length := by have := HLL.out; omega
      obtain ⟨b, off, heq, _, hcc⟩ := HR.out.at (by omega)
      have hck := hcc k hlt2
      injection heq with heq
      injection heq with h1 h2 _
      subst h1
      subst h2
      rw [Nat.zero_add] at hck
      clear hcc
      have hN : v4 (l.take k) < 72057594037927936 := by
        refine Nat.lt_of_lt_of_le (v4_lt _ 7 ?_) (by decide)
        have := List.length_take_le k l
        have := HLL.out
        omega
      have hcb := l[k].toNat_lt
      have hor := or_u64 (v4 (l.take k)) l[k].toNat hN hcb
      have HS : Hid (v4 (l.take (k + 1)) = v4 (l.take k) * 256 + l[k].toNat) := Lib.hid (by rw [List.take_succ_eq_append_getElem hlt2, v4_snoc])
      have hw1 : IntKind.u64.wrap ((v4 (l.take k) : Int) * 256) = (v4 (l.take k) : Int) * 256 := by rw [IntKind.wrap_u64]; omega
      have hw2 : IntKind.u64.wrap ((l[k].toNat : Nat) : Int) = ((l[k].toNat : Nat) : Int) := by rw [IntKind.wrap_u64]; omega
      have HOR := Lib.hid hor; clear hor
      have hkL : (k : Int) < L := by omega
      go_wp2_with fail
      go_round
      case rel => exact ⟨k + 1, by omega, by go_num, by rw [HS.out, HOR.out]⟩
      case measure => simp [intOf]; omega
    · obtain rfl : k = L := by omega
      go_wp2
      go_ret
      exact ⟨ret_u64 (by rw [HLL.out, List.take_length]), HE.out 0⟩
end Go.Proofs.YtgboeolnojpehaaGreatDoor

/- Heads as variables: alloc, build, load, store of all their cells; a head that is read. -/
set_option maxRecDepth 100000
namespace Go.Proofs.YtgboeolnojpehaaGreatDoor
open Go.RowKit

def Hd.Len (h : Hd) : Prop := h.free.length = 64 ∧ h.roots.length = 16
theorem Hd.Ok.len {h : Hd} (k : h.Ok) : h.Len := ⟨k.nf, k.nr⟩
theorem Hd.zero_len : Hd.zero.Len := ⟨rfl, rfl⟩
theorem Hd.Len.cells {h : Hd} (k : h.Len) : h.cells.length = 81 := by simp [Hd.cells, k.1, k.2]
theorem Hd.Len.setCount {h : Hd} (k : h.Len) (n : Nat) : (h.setCount n).Len := k
theorem Hd.Len.setRoot {h : Hd} (k : h.Len) (i n : Nat) : (h.setRoot i n).Len := ⟨k.1, by simp [Hd.setRoot, k.2]⟩
theorem Hd.Len.setWord {h : Hd} (k : h.Len) (i n : Nat) : (h.setWord i n).Len := ⟨by simp [Hd.setWord, k.1], k.2⟩
theorem Hd.Len.cells_setWord {h : Hd} (k : h.Len) {i : Nat} (hi : i < 64) (x : Nat) : (h.setWord i x).cells = h.cells.set (1 + i) (.int .u64 (x : Int)) := by
  rw [show 1 + i = i + 1 by omega]
  simp only [Hd.setWord, Hd.cells, List.set_cons_succ]
  rw [List.set_append_left _ _ (by simp [k.1]; omega), List.map_set]
theorem Hd.Len.cells_setRoot {h : Hd} (k : h.Len) {i : Nat} (x : Nat) : (h.setRoot i x).cells = h.cells.set (65 + i) (.int .i64 (x : Int)) := by
  rw [show 65 + i = (64 + i) + 1 by omega]
  simp only [Hd.setRoot, Hd.cells, List.set_cons_succ]
  rw [List.set_append_right _ _ (by simp [k.1]), List.map_set]
  simp [k.1]

/-- A head lies in a block of its own. -/
def HvAt (w : World) (b : Nat) (h : Hd) : Prop := HdAt w b 0 h ∧ ∀ j, w.frozen? ⟨b, j, none⟩ = false
theorem HvAt.block {w w' : World} {b : Nat} {h : Hd} (x : HvAt w b h) (hb : w'.heap[b]? = w.heap[b]?) : HvAt w' b h := ⟨x.1.block hb, fun j => (World.frozen?_of_block hb).trans (x.2 j)⟩
theorem HvAt.lt {w : World} {b : Nat} {h : Hd} (x : HvAt w b h) : b < w.heap.size := World.block_lt_of_cell? w _ x.1.count
theorem HvAt.kept {S : Nat → Prop} {w w' : World} {b : Nat} {h : Hd} (x : HvAt w b h) (hk : Kept S w w') (hb : ¬ S b) : HvAt w' b h := x.block (hk.block b x.lt hb)
theorem HvAt.new (w : World) (h : Hd) : HvAt (w.alloc (.cells h.cells.toArray 37)) w.heap.size h := by
  have hg := heap_alloc_new w (.cells h.cells.toArray 37)
  exact ⟨fun j v hv => by rw [Nat.zero_add, Lib.cell_of_heap hg, List.getElem?_toArray]; exact hv, fun j => Lib.frozen_of_heap hg _⟩
theorem HvAt.there {w : World} {b : Nat} {h : Hd} (x : HvAt w b h) (k : h.Len) : w.there b 0 81 := fun j hj =>
  ⟨by rw [x.1 j _ (List.getElem?_eq_getElem (by rw [k.cells]; exact hj))]; rfl, x.2 _⟩
theorem there_setCells_hd {w : World} {b o : Nat} (ht : w.there b o 81) (h : Hd) (k : h.Len) : HdAt (w.setCells b o h.cells) b o h ∧ Touch b o 81 w (w.setCells b o h.cells) ∧ Kept (fun j => j = b) w (w.setCells b o h.cells) := by
  have hl := k.cells
  exact ⟨World.rangeAt_setCells_same w b o h.cells (by rw [hl]; exact ht), Touch.setCells w o _ (Nat.le_refl _) (by rw [hl]; exact Nat.le_refl _), Kept.setCells (fun j => j = b) w (fb := b) rfl _⟩
theorem HvAt.put {w : World} {b : Nat} {h h' : Hd} (x : HvAt w b h) (k : h.Len) (k' : h'.Len) : HvAt (w.setCells b 0 h'.cells) b h' ∧ Kept (fun j => j = b) w (w.setCells b 0 h'.cells) := by
  obtain ⟨h1, h2, h3⟩ := there_setCells_hd (x.there k) h' k'
  exact ⟨⟨h1, fun j => (h2.froz j).trans (x.2 j)⟩, h3⟩

theorem exec_alloc_head {a : Act} {o : Oper} (ho : o.op = .alloc 37) (W : World) : (execOp a.eval o).run Tryz.prog W = .ok (.value (.pointer (some ⟨W.heap.size, 0, none⟩))) (W.alloc (.cells Hd.zero.cells.toArray 37)) := by
  have hz : (zeroValue 37).run Tryz.prog W = .ok (.agg Hd.zero.cells.toArray) W := by kernel_rfl
  unfold execOp
  simp only [ho, Instr.alloc, Sem.run_bind, hz, Result.andThen_ok]
  simp [go_sem]
theorem built_head0 : Tryz.prog.built 37 [] = some Hd.zero.cells.toArray := by kernel_rfl
theorem built_head1 (c : Int) : Tryz.prog.built 37 [(0, .int .i64 c)] = some (.int .i64 c :: Hd.zero.cells.tail).toArray := by kernel_rfl
theorem Hd.zero_count (c : Nat) : (Hd.zero.setCount c).cells = .int .i64 (c : Int) :: Hd.zero.cells.tail := rfl
theorem Hd.all_one (h : Hd) : h.cells.toArray.all (·.oneCell') = true := all_oneCell_toArray h.one
theorem Hd.Len.size {h : Hd} (k : h.Len) : (Tryz.prog.info? 37).map (·.size) = some h.cells.toArray.size := by rw [List.size_toArray, k.cells]; exact sizeHd
theorem Hd.Len.size' {h : Hd} (k : h.Len) : (Tryz.prog.info? 37).map (·.size) = some h.cells.length := by rw [k.cells]; exact sizeHd

/-- A head that is the only result, in a variable of its own. -/
theorem results_head {fn : Func} {p : Tmp} (h : fn.results = #[.cell p 37]) (tmps : Array Value) (w : World) (g : Nat) (hh : Hd) (k : hh.Len) (hp : tmps.getD p undef = .pointer (some ⟨g, 0, none⟩)) (hg : HdAt w g 0 hh) :
    (results fn tmps).run Tryz.prog w = .ok (.agg hh.cells.toArray) w := by
  have hp' : tmps[p]?.getD undef = .pointer (some ⟨g, 0, none⟩) := by simpa using hp
  simp [results, h, hp', asAddr, run_loadVar_mid (P := Tryz.prog) w g 0 37 hh.cells _ hg Tryz.underlying37 rfl k.size']

theorem HvAt.cell {w : World} {b : Nat} {h : Hd} (x : HvAt w b h) (k : h.Len) {i : Nat} (hi : i < 81) : ∃ v, w.cell? ⟨b, i, none⟩ = some v := by
  have := x.1 i _ (List.getElem?_eq_getElem (by rw [k.cells]; exact hi))
  rw [Nat.zero_add] at this
  exact ⟨_, this⟩
theorem HvAt.setAt {w : World} {b : Nat} {h h' : Hd} (x : HvAt w b h) (k : h.Len) {i : Nat} {v : Value} (hi : i < 81) (he : h'.cells = h.cells.set i v) : HvAt (w.setCell ⟨b, i, none⟩ v) b h' ∧ Kept (fun j => j = b) w (w.setCell ⟨b, i, none⟩ v) := by
  have := x.1.set (h' := h') (i := i) (v := v) (by rw [k.cells]; exact hi) he
  rw [Nat.zero_add] at this
  exact ⟨⟨this, fun j => by rw [World.frozen?_setCell]; exact x.2 j⟩, Kept.setCell (fun j => j = b) w (b := b) rfl _⟩

set_option maxHeartbeats 400000 in
theorem words_len (b o : Nat) (h : Hd) (w : World) (a : HdAt w b o h) (hcnt : h.count < 4096) :
    Calls Tryz.prog 85 #[.pointer (some ⟨b, o, none⟩)] w fun e w' => e = .returned (.int .i64 ((h.count / 64 + 1 : Nat) : Int)) ∧ w' = w := by
  have hc := a.count
  obtain ⟨c, hce⟩ : ∃ c, c = h.count := ⟨_, rfl⟩
  rw [← hce] at hc hcnt ⊢
  clear a hce
  go_enter Tryz.func85, Tryz.ntmps85
  go_wp2
  go_ret
  exact ⟨ret_i64 (by omega), rfl⟩

/-! ### A head that is read -/
def rNum (x : List UInt8 × Bool) (k : Nat) : Nat × (List UInt8 × Bool) := (v4 (rTk x.1 x.2 k).1, (rTk x.1 x.2 k).2)
def rRoots : Nat → Hd × (List UInt8 × Bool) → Hd × (List UInt8 × Bool)
  | 0, y => y
  | k + 1, y => ((rRoots k y).1.setRoot k (rNum (rRoots k y).2 4).1, (rNum (rRoots k y).2 4).2)
def rWords : Nat → Hd × (List UInt8 × Bool) → Hd × (List UInt8 × Bool)
  | 0, y => y
  | k + 1, y => ((rWords k y).1.setWord k (rNum (rWords k y).2 8).1, (rNum (rWords k y).2 8).2)
/-- What is read as a head, and what is left. -/
def rHd (x : List UInt8 × Bool) : Hd × (List UInt8 × Bool) :=
  if 4096 ≤ (rNum x 2).1 then (Hd.zero, ((rNum x 2).2.1, true))
  else rWords ((rNum x 2).1 / 64 + 1) (rRoots 16 (Hd.zero.setCount (rNum x 2).1, (rNum x 2).2))
theorem rRoots_len (y : Hd × (List UInt8 × Bool)) (h : y.1.Len) : ∀ k, (rRoots k y).1.Len
  | 0 => h
  | k + 1 => (rRoots_len y h k).setRoot _ _
theorem rRoots_count (y : Hd × (List UInt8 × Bool)) : ∀ k, (rRoots k y).1.count = y.1.count
  | 0 => rfl
  | k + 1 => rRoots_count y k
theorem rWords_len (y : Hd × (List UInt8 × Bool)) (h : y.1.Len) : ∀ k, (rWords k y).1.Len
  | 0 => h
  | k + 1 => (rWords_len y h k).setWord _ _
theorem rWords_count (y : Hd × (List UInt8 × Bool)) : ∀ k, (rWords k y).1.count = y.1.count
  | 0 => rfl
  | k + 1 => rWords_count y k
theorem rHd_len (x : List UInt8 × Bool) : (rHd x).1.Len := by
  unfold rHd
  split
  · exact Hd.zero_len
  · exact rWords_len _ (rRoots_len _ (Hd.zero_len.setCount _) _) _
theorem rTk_length (l : List UInt8) (sh : Bool) (n : Nat) : (rTk l sh n).1.length ≤ n := by
  unfold rTk
  split
  · simp
  · exact List.length_take_le _ _
theorem rNum_lt (x : List UInt8 × Bool) (k : Nat) : (rNum x k).1 < 256 ^ k := v4_lt _ k (rTk_length _ _ _)
end Go.Proofs.YtgboeolnojpehaaGreatDoor

/- The contract of a rest's head. -/
set_option maxRecDepth 100000
namespace Go.Proofs.YtgboeolnojpehaaGreatDoor
open Go.RowKit

/-- What is left, as a pair of plain things. -/
def RestP (w : World) (r : Nat) (x : List UInt8 × Bool) : Prop := ∃ s, RestAt w r s x.2 ∧ s.data.toList = x.1
theorem RestP.block {w w' : World} {r : Nat} {x : List UInt8 × Bool} (h : RestP w r x) (hb : w'.heap[r]? = w.heap[r]?) : RestP w' r x := h.imp fun _ k => ⟨k.1.block hb, k.2⟩
theorem RestP.lt {w : World} {r : Nat} {x : List UInt8 × Bool} (h : RestP w r x) : r < w.heap.size := h.elim fun _ k => k.1.lt
theorem rnumber_p (r : Nat) (x : List UInt8 × Bool) (k : Nat) (w : World) (h : RestP w r x) (hk : k ≤ 8) :
    Calls Tryz.prog 90 #[.pointer (some ⟨r, 0, none⟩), .int .i64 k] w fun e w' => e = .returned (.int .u64 (rNum x k).1) ∧ RestP w' r (rNum x k).2 ∧ Kept (fun j => j = r) w w' := by
  obtain ⟨s, h1, h2⟩ := h
  obtain ⟨l, sh⟩ := x
  simp only at h1 h2
  subst h2
  exact (rnumber_any r s sh k w h1 hk).mono fun e w' ⟨g1, g2⟩ => ⟨g1, g2.1, g2.2⟩

set_option maxHeartbeats 3200000 in
theorem rhead_any (r : Nat) (x : List UInt8 × Bool) (w : World) (h : RestP w r x) :
    Calls Tryz.prog 69 #[.pointer (some ⟨r, 0, none⟩)] w fun e w' => e = .returned (.agg (rHd x).1.cells.toArray) ∧ RestP w' r (rHd x).2 ∧ Kept (fun j => j = r) w w' := by
  obtain ⟨Z, hZ⟩ : ∃ Z : Array Value, Z = Hd.zero.cells.toArray := ⟨_, rfl⟩
  have hex : ∀ (a : Act) (o : Oper) (_ : o.op = .alloc 37) (W : World), (execOp a.eval o).run Tryz.prog W = .ok (.value (.pointer (some ⟨W.heap.size, 0, none⟩))) (W.alloc (.cells Z 37)) := by rw [hZ]; exact fun _ _ ho W => exec_alloc_head ho W
  have HEX := Lib.hid hex
  have hrl := h.lt
  obtain ⟨w0, hw0⟩ : ∃ w0, w0 = w.alloc (.cells Z 37) := ⟨_, rfl⟩
  have hv0 : HvAt w0 w.heap.size Hd.zero := by rw [hw0, hZ]; exact HvAt.new w Hd.zero
  have hr0 : RestP w0 r x := by rw [hw0]; exact h.block (Below.heap_alloc _ _ _ hrl)
  have hs0 : w0.heap.size = w.heap.size + 1 := by rw [hw0]; simp
  have HB0 : Hid (Below w.heap.size w w0) := Lib.hid (by rw [hw0]; exact (Below.refl _ _).alloc (Nat.le_refl _) _)
  have HNUM := Lib.hid (rnumber_p r x 2 w0 hr0 (by omega))
  obtain ⟨c, hc⟩ : ∃ c, c = (rNum x 2).1 := ⟨_, rfl⟩
  obtain ⟨x1, hx1⟩ : ∃ x1, x1 = (rNum x 2).2 := ⟨_, rfl⟩
  have hclt : c < 65536 := by rw [hc]; exact rNum_lt x 2
  rw [← hc, ← hx1] at HNUM
  have HW0 := Lib.hid hw0
  rw [hw0] at HNUM
  have hwc : IntKind.i64.wrap (c : Int) = (c : Int) := IntWalk.i64_in _ (by omega)
  have HC := Lib.hid hc; have HX1 := Lib.hid hx1; have HV0 := Lib.hid hv0; have HS0 := Lib.hid hs0; have HZ := Lib.hid hZ
  obtain ⟨X1, hX1⟩ : ∃ X1 : Array Value, X1 = (Hd.zero.setCount c).cells.toArray := ⟨_, rfl⟩
  have HBT := Lib.hid (built_head1 (c : Int))
  rw [← Hd.zero_count, ← hX1] at HBT
  have HX1E := Lib.hid hX1
  have HI1 : Hid ((Tryz.prog.info? 37).map (·.size) = some X1.size) := Lib.hid (by rw [hX1]; exact (Hd.zero_len.setCount c).size)
  have HO1 : Hid (X1.all (·.oneCell') = true) := Lib.hid (by rw [hX1]; exact Hd.all_one _)
  have HT1 : Hid (∀ W : World, (W.alloc (.cells Z 37)).there W.heap.size 0 X1.size) := Lib.hid (fun W => by
    have := (HvAt.new W Hd.zero).there Hd.zero_len
    rw [← hZ] at this
    have e : X1.size = 81 := by rw [hX1, List.size_toArray, (Hd.zero_len.setCount c).cells]
    rw [e]; exact this)
  clear hex hw0 hv0 hr0 hs0 hc hx1 hX1 h hZ
  go_enter Tryz.func69, Tryz.ntmps69
  go_wp2_with (refine wpList_val rfl _ (HEX.out _ _ rfl _) ?_)
  refine HNUM.out.mono ?_
  rintro e w1 ⟨rfl, hr1, hk1⟩
  rw [← HW0.out] at hk1
  obtain ⟨b3, hb3⟩ : ∃ b3, b3 = w1.heap.size := ⟨_, rfl⟩
  obtain ⟨w2, hw2⟩ : ∃ w2, w2 = (w1.alloc (.cells Z 37)).setCells b3 0 X1.toList := ⟨_, rfl⟩
  have hv1 : HvAt (w1.alloc (.cells Z 37)) b3 Hd.zero := by rw [HZ.out, hb3]; exact HvAt.new w1 Hd.zero
  obtain ⟨hv2, hk2⟩ : HvAt w2 b3 (Hd.zero.setCount c) ∧ Kept (fun j => j = b3) (w1.alloc (.cells Z 37)) w2 := by
    have := hv1.put Hd.zero_len (Hd.zero_len.setCount c)
    rw [hw2, HX1E.out, List.toList_toArray]; exact this
  have hrl1 := hr1.lt
  have hk12 : Kept (fun j => j = r) w0 w2 := (hk1.trans (Kept.ofBelow (S := fun j => j = r) ((Below.refl _ w1).alloc (Nat.le_refl _) _)) (fun _ hi => .inl hi)).trans hk2 (fun i hi => .inr (by have := hk1.size; omega))
  have hr2 : RestP w2 r x1 := (hr1.block (Below.heap_alloc _ _ _ hrl1)).block (hk2.block r (by simp; omega) (by omega))
  have hlt3 : b3 < w2.heap.size := hv2.lt
  have cc := hv2.1.count
  have HW2 : Hid ((w1.alloc (.cells Z 37)).setCells w1.heap.size 0 X1.toList = w2) := Lib.hid (by rw [hw2, hb3])
  have cc' : w2.cell? ⟨w1.heap.size, 0, none⟩ = some (.int .i64 c) := by rw [← hb3]; exact cc
  have HR2 := Lib.hid hr2; have HK2 := Lib.hid hk12; have HV2 := Lib.hid hv2; have HB3 := Lib.hid hb3; have HL3 := Lib.hid hlt3
  have hb30 : w0.heap.size ≤ b3 := by rw [hb3]; exact hk1.size
  have HB30 := Lib.hid hb30
  clear hr1 hk1 hv1 hv2 hk2 hrl1 hk12 hr2 hlt3 cc hw2 hb3 hb30
  by_cases hbig : 4096 ≤ c
  · have hsm : decide ((4096 : Int) ≤ c) = true := decide_eq_true (by omega)
    have hsm1 : decide (4096 ≤ c) = true := decide_eq_true (by omega)
    have hfx : rHd x = (Hd.zero, (x1.1, true)) := by
      unfold rHd
      rw [← HC.out, if_pos hbig, ← HX1.out]
    obtain ⟨s, hs, hsl⟩ := HR2.out
    have k1 := hs.short
    have z1 := hs.froz 1
    have hr3 : RestP (w2.setCell ⟨r, 1, none⟩ (.bool true)) r (x1.1, true) := ⟨s, ⟨(World.cell?_setCell_other w2 ⟨r, 1, none⟩ ⟨r, 0, none⟩ _ (fun e => by injection e with _ e _; omega)).trans hs.b, World.cell?_setCell_same _ _ _ k1, fun j => by rw [World.frozen?_setCell]; exact hs.froz j⟩, hsl⟩
    have hw00 : w.heap.size < w0.heap.size := by have := HS0.out; omega
    have hne3 : r ≠ w.heap.size := by omega
    have hvr : HvAt (w2.setCell ⟨r, 1, none⟩ (.bool true)) w.heap.size Hd.zero := (HV0.out.kept HK2.out (by omega)).block (Below.heap_setCell _ _ _ _ (fun e => hne3 e.symm))
    obtain ⟨hv7, hk7⟩ := hvr.put Hd.zero_len Hd.zero_len
    have HE : Hid (HdAt ((w2.setCell ⟨r, 1, none⟩ (.bool true)).setCells w.heap.size 0 Hd.zero.cells) w.heap.size 0 Hd.zero ∧ RestP ((w2.setCell ⟨r, 1, none⟩ (.bool true)).setCells w.heap.size 0 Hd.zero.cells) r (x1.1, true) ∧ Kept (fun j => j = r) w ((w2.setCell ⟨r, 1, none⟩ (.bool true)).setCells w.heap.size 0 Hd.zero.cells)) := Lib.hid
      ⟨hv7.1, hr3.block (hk7.block r (by simpa using HR2.out.lt) hne3), (((Kept.ofBelow (S := fun j => j = r) HB0.out).trans HK2.out (fun _ hi => .inl hi)).trans (Kept.setCell (fun j => j = r) w2 (b := r) rfl _) (fun _ hi => .inl hi)).trans hk7 (fun i hi => .inr (by omega))⟩
    have HTH : Hid ((w2.setCell ⟨r, 1, none⟩ (.bool true)).there w.heap.size 0 Z.size) := Lib.hid (by
      have e : Z.size = 81 := by rw [HZ.out, List.size_toArray, Hd.zero_len.cells]
      rw [e]; exact hvr.there Hd.zero_len)
    have hs2 := Hd.zero_len.size
    have ha1 := Hd.all_one Hd.zero
    have hb0 := built_head0
    rw [← HZ.out] at hs2 ha1 hb0
    have hZl : Z.toList = Hd.zero.cells := by rw [HZ.out, List.toList_toArray]
    have HS2 := Lib.hid hs2; have HA1 := Lib.hid ha1; have HB00 := Lib.hid hb0; have HFX := Lib.hid hfx; have HZL := Lib.hid hZl
    clear hfx hs hsl hr3 hw00 hne3 hvr hv7 hk7 hs2 ha1 hb0 hZl
    go_wp2_with (first
      | (refine wpList_val rfl _ (exec_build rfl [(0, .int .i64 c)] (by simp [go_sem]) X1 HBT.out w1) ?_)
      | (refine wpList_val rfl _ (HEX.out _ _ rfl _) ?_)
      | (refine wpList_store_mid rfl 37 _ _ rfl w1.heap.size 0 X1 (by rfl) (by rfl) (HT1.out w1) HI1.out HO1.out ?_; rw [HW2.out])
      | (refine wpList_val rfl _ (exec_build rfl [] (by simp [go_sem]) Z HB00.out _) ?_)
      | (refine wpList_store_mid rfl 37 _ _ rfl w.heap.size 0 Z (by rfl) (by rfl) HTH.out HS2.out HA1.out ?_; rw [HZL.out]))
    refine bodyPost_ret (v := .agg Hd.zero.cells.toArray) (results_head Tryz.results69 _ _ w.heap.size Hd.zero Hd.zero_len (by rfl) HE.out.1) rfl ⟨by rw [HFX.out], by rw [HFX.out]; exact HE.out.2⟩
  · have hsm : decide ((4096 : Int) ≤ c) = false := decide_eq_false (by omega)
    have hsm1 : decide (4096 ≤ c) = false := decide_eq_false (by omega)
    obtain ⟨y, hy⟩ : ∃ y, y = (Hd.zero.setCount c, x1) := ⟨_, rfl⟩
    have hylen : y.1.Len := by rw [hy]; exact Hd.zero_len.setCount c
    have HY0 : Hid (y.1.count = c) := Lib.hid (by rw [hy]; rfl)
    have HR2' : Hid (RestP w2 r y.2) := Lib.hid (by rw [hy]; exact HR2.out)
    have HV2' : Hid (HvAt w2 b3 y.1) := Lib.hid (by rw [hy]; exact HV2.out)
    have HYE := Lib.hid hy; have HYL := Lib.hid hylen
    clear hy hylen
    go_wp2_with (first
      | (refine wpList_val rfl _ (exec_build rfl [(0, .int .i64 c)] (by simp [go_sem]) X1 HBT.out w1) ?_)
      | (refine wpList_val rfl _ (HEX.out _ _ rfl _) ?_)
      | (refine wpList_store_mid rfl 37 _ _ rfl w1.heap.size 0 X1 (by rfl) (by rfl) (HT1.out w1) HI1.out HO1.out ?_; rw [HW2.out]))
    go_loopw [17] (fun i wr => ∃ k : Nat, k ≤ 16 ∧ i = .int .i64 k ∧ Hid (RestP wr r (rRoots k y).2) ∧ Hid (HvAt wr b3 (rRoots k y).1) ∧ Hid (Kept (fun j => j = r) w0 wr)) (fun i _ => 16 - (intOf i).toNat)
    case atStart => exact ⟨0, by omega, rfl, HR2', HV2', HK2⟩
    case round =>
      obtain ⟨k, hk, rfl, hr, hv, hkp⟩ := hrel
      by_cases hlt : k < 16
      · have hn := rnumber_p r _ 4 wr hr.out (by omega)
        have hnl := rNum_lt (rRoots k y).2 4
        obtain ⟨z, hz⟩ : ∃ z, z = rRoots k y := ⟨_, rfl⟩
        have hnx : rRoots (k + 1) y = (z.1.setRoot k (rNum z.2 4).1, (rNum z.2 4).2) := by rw [hz]; rfl
        rw [← hz] at hn hnl hv
        obtain ⟨n, hne⟩ : ∃ n, n = (rNum z.2 4).1 := ⟨_, rfl⟩
        rw [← hne] at hn hnl hnx
        have HN := Lib.hid hn; have HNX := Lib.hid hnx
        have hzl : z.1.Len := by rw [hz]; exact rRoots_len y HYL.out k
        have HZL := Lib.hid hzl
        have hwn : IntKind.i64.wrap (n : Int) = (n : Int) := IntWalk.i64_in _ (by omega)
        have hk16 : (k : Int) < 16 := by omega
        clear hn hnx hne hz hzl hr
        go_wp2_with fail
        refine HN.out.mono ?_
        rintro e w4 ⟨rfl, hr4, hk4⟩
        have hbr : b3 ≠ r := by have h1 := HR2.out.lt; have h2 := HB30.out; have h3 := HS0.out; omega
        have hv4 := hv.out.kept hk4 hbr
        obtain ⟨u, hu⟩ := hv4.cell HZL.out (show 65 + k < 81 by omega)
        have hf := hv4.2 (65 + k)
        obtain ⟨hv5, hk5⟩ := hv4.setAt (h' := z.1.setRoot k n) HZL.out (show 65 + k < 81 by omega) (HZL.out.cells_setRoot n)
        have HV5 : Hid (HvAt (w4.setCell ⟨b3, 65 + k, none⟩ (.int .i64 n)) b3 (rRoots (k + 1) y).1) := Lib.hid (by rw [HNX.out]; exact hv5)
        have HR5 : Hid (RestP (w4.setCell ⟨b3, 65 + k, none⟩ (.int .i64 n)) r (rRoots (k + 1) y).2) := Lib.hid (by rw [HNX.out]; exact hr4.block (Below.heap_setCell _ _ _ _ (fun e => hbr e.symm)))
        have HK5 : Hid (Kept (fun j => j = r) w0 (w4.setCell ⟨b3, 65 + k, none⟩ (.int .i64 n))) := Lib.hid ((hkp.out.trans hk4 (fun i hi => .inl hi)).trans hk5 (fun i hi => .inr (by have h2 := HB30.out; omega)))
        rw [HB3.out] at hu hf HV5 HR5 HK5
        clear hr4 hk4 hbr hv4 hv5 hk5
        go_wp2
        go_roundw
        case rel => exact ⟨k + 1, by omega, by go_num, HR5, by rw [HB3.out]; exact HV5, HK5⟩
        case measure => simp [intOf]; omega
      · have hge : ¬ ((k : Int) < 16) := by omega
        obtain ⟨y2, hy2⟩ : ∃ y2, y2 = rRoots 16 y := ⟨_, rfl⟩
        have hk16 : k = 16 := by omega
        have hr2 := hr.out
        have hv2 := hv.out
        rw [hk16, ← hy2] at hr2 hv2
        have hyl2 : y2.1.Len := by rw [hy2]; exact rRoots_len y HYL.out 16
        have hyc2 : y2.1.count = c := by rw [hy2, rRoots_count]; exact HY0.out
        have HYL2 := Lib.hid hyl2; have HYC2 := Lib.hid hyc2; have HY2 := Lib.hid hy2
        obtain ⟨n, hn⟩ : ∃ n, n = c / 64 + 1 := ⟨_, rfl⟩
        have hn64 : n ≤ 64 := by omega
        have HNE := Lib.hid hn
        have hwd := words_len b3 0 y2.1 wr hv2.1 (by rw [hyc2]; omega)
        rw [hyc2, ← hn, HB3.out] at hwd
        have HWD := Lib.hid hwd
        have hsl := fun W => run_sliceWords W w1.heap.size 1 n hn64
        have HR3 := Lib.hid hr2; have HV3 := Lib.hid hv2
        clear hlt hk16 hr2 hv2 hyl2 hyc2 hy2 hn hwd hr hv hk
        go_wp2_with fail
        refine HWD.out.mono ?_
        rintro e w5 ⟨rfl, hw⟩
        subst w5
        go_wp2
        go_loopw [31] (fun i wr => ∃ k : Nat, k ≤ n ∧ i = .int .i64 k ∧ Hid (RestP wr r (rWords k y2).2) ∧ Hid (HvAt wr b3 (rWords k y2).1) ∧ Hid (Kept (fun j => j = r) w0 wr)) (fun i _ => n - (intOf i).toNat)
        case atStart => exact ⟨0, by omega, rfl, HR3, HV3, hkp⟩
        case round =>
          obtain ⟨k, hk, rfl, hr, hv, hkp⟩ := hrel
          by_cases hlt : k < n
          · have hnn := rnumber_p r _ 8 wr hr.out (by omega)
            obtain ⟨z, hz⟩ : ∃ z, z = rWords k y2 := ⟨_, rfl⟩
            have hnx : rWords (k + 1) y2 = (z.1.setWord k (rNum z.2 8).1, (rNum z.2 8).2) := by rw [hz]; rfl
            rw [← hz] at hnn hv
            obtain ⟨u8, hne⟩ : ∃ u8, u8 = (rNum z.2 8).1 := ⟨_, rfl⟩
            rw [← hne] at hnn hnx
            have HN := Lib.hid hnn; have HNX := Lib.hid hnx
            have hzl : z.1.Len := by rw [hz]; exact rWords_len y2 HYL2.out k
            have HZL := Lib.hid hzl
            have hkn : (k : Int) < n := by omega
            have hk64 : (k : Int) < 64 := by omega
            clear hnn hnx hne hz hzl hr
            go_wp2_with fail
            refine HN.out.mono ?_
            rintro e w4 ⟨rfl, hr4, hk4⟩
            have hbr : b3 ≠ r := by have h1 := HR2.out.lt; have h2 := HB30.out; have h3 := HS0.out; omega
            have hv4 := hv.out.kept hk4 hbr
            obtain ⟨u, hu⟩ := hv4.cell HZL.out (show 1 + k < 81 by omega)
            have hf := hv4.2 (1 + k)
            obtain ⟨hv5, hk5⟩ := hv4.setAt (h' := z.1.setWord k u8) HZL.out (show 1 + k < 81 by omega) (HZL.out.cells_setWord (by omega) u8)
            have HV5 : Hid (HvAt (w4.setCell ⟨b3, 1 + k, none⟩ (.int .u64 u8)) b3 (rWords (k + 1) y2).1) := Lib.hid (by rw [HNX.out]; exact hv5)
            have HR5 : Hid (RestP (w4.setCell ⟨b3, 1 + k, none⟩ (.int .u64 u8)) r (rWords (k + 1) y2).2) := Lib.hid (by rw [HNX.out]; exact hr4.block (Below.heap_setCell _ _ _ _ (fun e => hbr e.symm)))
            have HK5 : Hid (Kept (fun j => j = r) w0 (w4.setCell ⟨b3, 1 + k, none⟩ (.int .u64 u8))) := Lib.hid ((hkp.out.trans hk4 (fun i hi => .inl hi)).trans hk5 (fun i hi => .inr (by have h2 := HB30.out; omega)))
            rw [HB3.out] at hu hf HV5 HR5 HK5
            clear hr4 hk4 hbr hv4 hv5 hk5
            go_wp2
            go_roundw
            case rel => exact ⟨k + 1, by omega, by go_num, HR5, by rw [HB3.out]; exact HV5, HK5⟩
            case measure => simp [intOf]; omega
          · have hge2 : ¬ ((k : Int) < n) := by omega
            obtain ⟨f, hf⟩ : ∃ f, f = (rHd x).1 := ⟨_, rfl⟩
            have hfx : rHd x = rWords k y2 := by
              unfold rHd
              rw [← HC.out, if_neg hbig, ← HX1.out, ← HYE.out, ← HNE.out, show n = k by omega, HY2.out]
            have hv6 : HvAt wr b3 f := by rw [hf, hfx]; exact hv.out
            have hr6 : RestP wr r (rHd x).2 := by rw [hfx]; exact hr.out
            have hfl : f.Len := by rw [hf]; exact rHd_len x
            have hw00 : w.heap.size < w0.heap.size := by have := HS0.out; omega
            have hvr : HvAt wr w.heap.size Hd.zero := HV0.out.kept hkp.out (by omega)
            obtain ⟨hv7, hk7⟩ := hvr.put Hd.zero_len hfl
            have hne3 : r ≠ w.heap.size := by omega
            have HE : Hid (HdAt (wr.setCells w.heap.size 0 f.cells) w.heap.size 0 f ∧ RestP (wr.setCells w.heap.size 0 f.cells) r (rHd x).2 ∧ Kept (fun j => j = r) w (wr.setCells w.heap.size 0 f.cells)) := Lib.hid ⟨hv7.1, hr6.block (hk7.block r hr6.lt hne3), ((Kept.ofBelow (S := fun j => j = r) HB0.out).trans hkp.out (fun _ hi => .inl hi)).trans hk7 (fun i hi => .inr (by omega))⟩
            have HFL := Lib.hid hfl
            have HRG : Hid (wr.rangeAt w1.heap.size 0 f.cells) := Lib.hid (by rw [← HB3.out]; exact hv6.1)
            have HTH : Hid (wr.there w.heap.size 0 f.cells.toArray.size) := Lib.hid (by
              have e : f.cells.toArray.size = 81 := by rw [List.size_toArray, hfl.cells]
              rw [e]; exact hvr.there Hd.zero_len)
            have HF := Lib.hid hf
            obtain ⟨fc, hfc⟩ : ∃ fc, fc = f.cells := ⟨_, rfl⟩
            have hs1 := hfl.size'
            have hs2 := hfl.size
            have ha1 := Hd.all_one f
            rw [← hfc] at hs1 hs2 ha1 HRG HTH HE
            have HS1 := Lib.hid hs1; have HS2 := Lib.hid hs2; have HA1 := Lib.hid ha1; have HFC := Lib.hid hfc
            clear hf hfx hv6 hr6 hfl hvr hv7 hk7 hne3 hfc hs1 hs2 ha1 hw00
            go_wp2_with (first
              | (refine wpList_load_mid rfl 37 _ rfl w1.heap.size 0 (by rfl) fc _ HRG.out Tryz.underlying37 rfl HS1.out ?_)
              | (refine wpList_store_mid rfl 37 _ _ rfl w.heap.size 0 fc.toArray (by rfl) (by rfl) HTH.out HS2.out HA1.out ?_; rw [List.toList_toArray]))
            refine bodyPost_ret (v := .agg f.cells.toArray) (results_head Tryz.results69 _ _ w.heap.size f HFL.out (by rfl) (by have := HE.out.1; rw [HFC.out] at this ⊢; exact this)) rfl ⟨by rw [HF.out], HE.out.2⟩
end Go.Proofs.YtgboeolnojpehaaGreatDoor

/- A patch that is read. -/
set_option maxRecDepth 100000
namespace Go.Proofs.YtgboeolnojpehaaGreatDoor
open Go.RowKit

theorem rtake_p (r : Nat) (x : List UInt8 × Bool) (n : Nat) (w : World) (h : RestP w r x) :
    Calls Tryz.prog 91 #[.pointer (some ⟨r, 0, none⟩), .int .i64 n] w fun e w' => ∃ t, e = .returned (.string t) ∧ t.data.toList = (rTk x.1 x.2 n).1 ∧ RestP w' r (rTk x.1 x.2 n).2 ∧ Kept (fun j => j = r) w w' := by
  obtain ⟨s, h1, h2⟩ := h
  obtain ⟨l, sh⟩ := x
  simp only at h1 h2
  subst h2
  exact (rtake_any r s sh n w h1).mono fun e w' ⟨t, g1, g2, g3⟩ => ⟨t, g1, g2, g3.1, g3.2⟩

/-- What is read as a patch, and what is left. -/
def rPt (x : List UInt8 × Bool) : (Nat × Nat × List UInt8) × (List UInt8 × Bool) :=
  let p1 := rNum x 2
  let p2 := rNum p1.2 2
  let p3 := rNum p2.2 2
  let t := rTk p3.2.1 p3.2.2 p3.1
  ((p1.1, p2.1, t.1), t.2)

theorem results_pt {fn : Func} {p : Tmp} (h : fn.results = #[.cell p 128]) (tmps : Array Value) (w : World) (g : Nat) (cs : List Value) (k : cs.length = 3) (hp : tmps.getD p undef = .pointer (some ⟨g, 0, none⟩)) (hg : w.rangeAt g 0 cs) :
    (results fn tmps).run Tryz.prog w = .ok (.agg cs.toArray) w := by
  have hp' : tmps[p]?.getD undef = .pointer (some ⟨g, 0, none⟩) := by simpa using hp
  simp [results, h, hp', asAddr, run_loadVar_mid (P := Tryz.prog) w g 0 128 cs _ hg Tryz.underlying128 rfl (by rw [k]; kernel_rfl)]

theorem range3 (W : World) (g : Nat) (u0 u1 u2 x y z : Value) (h0 : W.cell? ⟨g, 0, none⟩ = some u0) (h1 : W.cell? ⟨g, 1, none⟩ = some u1) (h2 : W.cell? ⟨g, 2, none⟩ = some u2) :
    (((W.setCell ⟨g, 0, none⟩ x).setCell ⟨g, 1, none⟩ y).setCell ⟨g, 2, none⟩ z).rangeAt g 0 [x, y, z] := by
  have ne : ∀ {i j : Nat}, i ≠ j → (⟨g, i, none⟩ : Addr) ≠ ⟨g, j, none⟩ := fun h e => by injection e with _ e _; exact h e
  have c1 : (W.setCell ⟨g, 0, none⟩ x).cell? ⟨g, 1, none⟩ = some u1 := (World.cell?_setCell_other _ _ _ _ (ne (by omega))).trans h1
  have c2 : ((W.setCell ⟨g, 0, none⟩ x).setCell ⟨g, 1, none⟩ y).cell? ⟨g, 2, none⟩ = some u2 := (World.cell?_setCell_other _ _ _ _ (ne (by omega))).trans ((World.cell?_setCell_other _ _ _ _ (ne (by omega))).trans h2)
  intro j v hv
  have hj : j = 0 ∨ j = 1 ∨ j = 2 := by have := (List.getElem?_eq_some_iff.1 hv).1; simp at this; omega
  rw [Nat.zero_add]
  rcases hj with rfl | rfl | rfl
  · simp at hv; subst hv
    exact (World.cell?_setCell_other _ _ _ _ (ne (by omega))).trans ((World.cell?_setCell_other _ _ _ _ (ne (by omega))).trans (World.cell?_setCell_same _ _ _ h0))
  · simp at hv; subst hv
    exact (World.cell?_setCell_other _ _ _ _ (ne (by omega))).trans (World.cell?_setCell_same _ _ _ c1)
  · simp at hv; subst hv
    exact World.cell?_setCell_same _ _ _ c2

set_option maxHeartbeats 1600000 in
theorem rpatch_any (r : Nat) (x : List UInt8 × Bool) (w : World) (h : RestP w r x) :
    Calls Tryz.prog 70 #[.pointer (some ⟨r, 0, none⟩)] w fun e w' => ∃ t : ByteArray, e = .returned (.agg #[.int .i64 (rPt x).1.1, .int .i64 (rPt x).1.2.1, .string t]) ∧ t.data.toList = (rPt x).1.2.2 ∧ RestP w' r (rPt x).2 ∧ Kept (fun j => j = r) w w' := by
  have hrl := h.lt
  obtain ⟨w0, hw0⟩ : ∃ w0, w0 = w.alloc (.cells #[.int .i64 0, .int .i64 0, .string ⟨#[]⟩] 128) := ⟨_, rfl⟩
  have hr0 : RestP w0 r x := by rw [hw0]; exact h.block (Below.heap_alloc _ _ _ hrl)
  have hg0 : w0.heap[w.heap.size]? = some (.cells #[.int .i64 0, .int .i64 0, .string ⟨#[]⟩] 128 (0, 0)) := by rw [hw0]; exact heap_alloc_new w _
  have hb0 : Below w.heap.size w w0 := by rw [hw0]; exact (Below.refl _ _).alloc (Nat.le_refl _) _
  have hs0 : w0.heap.size = w.heap.size + 1 := by rw [hw0]; simp
  have HN1 := Lib.hid (rnumber_p r x 2 w0 hr0 (by omega))
  rw [hw0] at HN1
  obtain ⟨n1, hn1⟩ : ∃ n, n = (rNum x 2).1 := ⟨_, rfl⟩
  obtain ⟨x1, hx1⟩ : ∃ y, y = (rNum x 2).2 := ⟨_, rfl⟩
  obtain ⟨n2, hn2⟩ : ∃ n, n = (rNum x1 2).1 := ⟨_, rfl⟩
  obtain ⟨x2, hx2⟩ : ∃ y, y = (rNum x1 2).2 := ⟨_, rfl⟩
  obtain ⟨n3, hn3⟩ : ∃ n, n = (rNum x2 2).1 := ⟨_, rfl⟩
  obtain ⟨x3, hx3⟩ : ∃ y, y = (rNum x2 2).2 := ⟨_, rfl⟩
  have l1 : n1 < 65536 := by rw [hn1]; exact rNum_lt x 2
  have l2 : n2 < 65536 := by rw [hn2]; exact rNum_lt x1 2
  have l3 : n3 < 65536 := by rw [hn3]; exact rNum_lt x2 2
  have hpt : rPt x = ((n1, n2, (rTk x3.1 x3.2 n3).1), (rTk x3.1 x3.2 n3).2) := by
    unfold rPt
    simp only
    rw [← hx1, ← hx2, ← hx3, ← hn1, ← hn2, ← hn3]
  rw [hpt]
  rw [← hn1, ← hx1] at HN1
  have HX2 : Hid (n2 = (rNum x1 2).1 ∧ x2 = (rNum x1 2).2 ∧ n3 = (rNum x2 2).1 ∧ x3 = (rNum x2 2).2) := Lib.hid ⟨hn2, hx2, hn3, hx3⟩
  have v1 : IntKind.i64.wrap (n1 : Int) = (n1 : Int) := IntWalk.i64_in _ (by omega)
  have v2 : IntKind.i64.wrap (n2 : Int) = (n2 : Int) := IntWalk.i64_in _ (by omega)
  have v3 : IntKind.i64.wrap (n3 : Int) = (n3 : Int) := IntWalk.i64_in _ (by omega)
  have HW0 := Lib.hid hw0; have HG0 := Lib.hid hg0; have HB0 := Lib.hid hb0; have HS0 := Lib.hid hs0
  clear h hw0 hr0 hg0 hb0 hs0 hn1 hx1 hn2 hx2 hn3 hx3 hpt
  go_enter Tryz.func70, Tryz.ntmps70
  go_wp2_with fail
  refine HN1.out.mono ?_
  rintro e w1 ⟨rfl, hr1, hk1⟩
  rw [← HW0.out] at hk1
  have hn := rnumber_p r x1 2 w1 hr1 (by omega)
  rw [← HX2.out.1, ← HX2.out.2.1] at hn
  have HN2 := Lib.hid hn
  have HK1 := Lib.hid hk1
  clear hn hr1 hk1
  go_wp2_with fail
  refine HN2.out.mono ?_
  rintro e w2 ⟨rfl, hr2, hk2⟩
  have hk02 := HK1.out.trans hk2 (fun _ hi => .inl hi)
  have hk2s := Lib.hid hk2.size
  have hrl2 := hr2.lt
  obtain ⟨w3, hw3⟩ : ∃ w3, w3 = w2.alloc (.cells #[.int .i64 n1, .int .i64 n2, .string ⟨#[]⟩] 128) := ⟨_, rfl⟩
  have hr3 : RestP w3 r x2 := by rw [hw3]; exact hr2.block (Below.heap_alloc _ _ _ hrl2)
  have hg3 : w3.heap[w2.heap.size]? = some (.cells #[.int .i64 n1, .int .i64 n2, .string ⟨#[]⟩] 128 (0, 0)) := by rw [hw3]; exact heap_alloc_new w2 _
  have hk03 : Kept (fun j => j = r) w0 w3 := hk02.trans (Kept.ofBelow (S := fun j => j = r) (by rw [hw3]; exact (Below.refl _ _).alloc (Nat.le_refl _) _)) (fun _ hi => .inl hi)
  have hn := rnumber_p r x2 2 w3 hr3 (by omega)
  rw [← HX2.out.2.2.1, ← HX2.out.2.2.2, hw3] at hn
  have HN3 := Lib.hid hn
  have HW3 := Lib.hid hw3; have HG3 := Lib.hid hg3; have HK3 := Lib.hid hk03; have HRL2 := Lib.hid hrl2
  clear hn hk2 hk02 hr2 hrl2 hw3 hr3 hg3 hk03
  go_wp2_with fail
  refine HN3.out.mono ?_
  rintro e w4 ⟨rfl, hr4, hk4⟩
  rw [← HW3.out] at hk4
  have HT := Lib.hid (rtake_p r x3 n3 w4 hr4)
  have HK4 := Lib.hid hk4
  clear hr4 hk4
  go_wp2_with fail
  refine HT.out.mono ?_
  rintro e w5 ⟨t, rfl, ht, hr5, hk5⟩
  have hk35 := HK4.out.trans hk5 (fun _ hi => .inl hi)
  have h2r : w2.heap.size ≠ r := by have := HRL2.out; omega
  have hg5 : w5.heap[w2.heap.size]? = some (.cells #[.int .i64 n1, .int .i64 n2, .string ⟨#[]⟩] 128 (0, 0)) := (hk35.block w2.heap.size (by rw [HW3.out]; simp) h2r).trans HG3.out
  have hk05 := HK3.out.trans hk35 (fun _ hi => .inl hi)
  have hwr : w.heap.size ≠ r := by omega
  have hg50 : w5.heap[w.heap.size]? = some (.cells #[.int .i64 0, .int .i64 0, .string ⟨#[]⟩] 128 (0, 0)) := (hk05.block w.heap.size (by have := HS0.out; omega) hwr).trans HG0.out
  have hAR : ¬ w2.heap.size = w.heap.size := by
    have h1 := HK3.out.size
    have h2 := HK1.out.size
    have h3 := HS0.out
    have h4 := hk2s.out
    omega
  have hRA : ¬ w.heap.size = w2.heap.size := fun e => hAR e.symm
  have a0 : w5.cell? ⟨w2.heap.size, 0, none⟩ = some (.int .i64 n1) := by rw [Lib.cell_of_heap hg5]; rfl
  have a1 : w5.cell? ⟨w2.heap.size, 1, none⟩ = some (.int .i64 n2) := by rw [Lib.cell_of_heap hg5]; rfl
  have a2 : w5.cell? ⟨w2.heap.size, 2, none⟩ = some (.string ⟨#[]⟩) := by rw [Lib.cell_of_heap hg5]; rfl
  have f2 : w5.frozen? ⟨w2.heap.size, 2, none⟩ = false := Lib.frozen_of_heap hg5 _
  have b0 : w5.cell? ⟨w.heap.size, 0, none⟩ = some (.int .i64 0) := by rw [Lib.cell_of_heap hg50]; rfl
  have b1 : w5.cell? ⟨w.heap.size, 1, none⟩ = some (.int .i64 0) := by rw [Lib.cell_of_heap hg50]; rfl
  have b2 : w5.cell? ⟨w.heap.size, 2, none⟩ = some (.string ⟨#[]⟩) := by rw [Lib.cell_of_heap hg50]; rfl
  have e0 : w5.frozen? ⟨w.heap.size, 0, none⟩ = false := Lib.frozen_of_heap hg50 _
  have e1 : w5.frozen? ⟨w.heap.size, 1, none⟩ = false := Lib.frozen_of_heap hg50 _
  have e2 : w5.frozen? ⟨w.heap.size, 2, none⟩ = false := Lib.frozen_of_heap hg50 _
  have HE : Hid (RestP ((((w5.setCell ⟨w2.heap.size, 2, none⟩ (.string t)).setCell ⟨w.heap.size, 0, none⟩ (.int .i64 n1)).setCell ⟨w.heap.size, 1, none⟩ (.int .i64 n2)).setCell ⟨w.heap.size, 2, none⟩ (.string t)) r (rTk x3.1 x3.2 n3).2 ∧
      Kept (fun j => j = r) w ((((w5.setCell ⟨w2.heap.size, 2, none⟩ (.string t)).setCell ⟨w.heap.size, 0, none⟩ (.int .i64 n1)).setCell ⟨w.heap.size, 1, none⟩ (.int .i64 n2)).setCell ⟨w.heap.size, 2, none⟩ (.string t))) := Lib.hid (by
    have hn1 : r ≠ w2.heap.size := fun e => h2r e.symm
    have hn2 : r ≠ w.heap.size := fun e => hwr e.symm
    refine ⟨(((hr5.block (Below.heap_setCell _ _ _ _ hn1)).block (Below.heap_setCell _ _ _ _ hn2)).block (Below.heap_setCell _ _ _ _ hn2)).block (Below.heap_setCell _ _ _ _ hn2), ?_⟩
    have hA2 : w.heap.size ≤ w2.heap.size := by
      have h2 := HK1.out.size
      have h3 := HS0.out
      have h4 := hk2s.out
      omega
    have k0 : Kept (fun j => j = r) w w5 := (Kept.ofBelow (S := fun j => j = r) HB0.out).trans hk05 (fun _ hi => .inl hi)
    exact (((k0.trans (Kept.setCell (fun j => j = w2.heap.size) _ (b := w2.heap.size) rfl _) (fun i hi => .inr (by omega))).trans (Kept.setCell (fun j => j = w.heap.size) _ (b := w.heap.size) rfl _) (fun i hi => .inr (by omega))).trans (Kept.setCell (fun j => j = w.heap.size) _ (b := w.heap.size) rfl _) (fun i hi => .inr (by omega))).trans (Kept.setCell (fun j => j = w.heap.size) _ (b := w.heap.size) rfl _) (fun i hi => .inr (by omega)))
  have HTT := Lib.hid ht
  clear hk5 hk35 hg5 hk05 hg50 hr5 ht h2r hwr
  go_wp2
  refine bodyPost_ret (v := .agg #[.int .i64 n1, .int .i64 n2, .string t]) ?_ rfl ⟨t, rfl, HTT.out, HE.out⟩
  refine results_pt Tryz.results70 _ _ w.heap.size [.int .i64 n1, .int .i64 n2, .string t] rfl (by rfl) ?_
  have hoo : ∀ i, (w5.setCell ⟨w2.heap.size, 2, none⟩ (.string t)).cell? ⟨w.heap.size, i, none⟩ = w5.cell? ⟨w.heap.size, i, none⟩ := fun i => World.cell?_setCell_other _ _ _ _ (fun e => by injection e with e _ _; exact hAR e)
  exact range3 _ _ _ _ _ _ _ _ ((hoo 0).trans b0) ((hoo 1).trans b1) ((hoo 2).trans b2)
end Go.Proofs.YtgboeolnojpehaaGreatDoor

/- What a record tells: all patches; headOf where there is no head. -/
set_option maxRecDepth 100000
namespace Go.Proofs.YtgboeolnojpehaaGreatDoor
open Go.RowKit

theorem results_head2 {fn : Func} {p q : Tmp} (h : fn.results = #[.cell p 37, .tmp q]) (tmps : Array Value) (w : World) (g : Nat) (hh : Hd) (k : hh.Len) (v : Value) (hp : tmps.getD p undef = .pointer (some ⟨g, 0, none⟩)) (hq : tmps.getD q undef = v) (hg : HdAt w g 0 hh) :
    (results fn tmps).run Tryz.prog w = .ok (.tuple #[.agg hh.cells.toArray, v]) w := by
  have hp' : tmps[p]?.getD undef = .pointer (some ⟨g, 0, none⟩) := by simpa using hp
  have hq' : tmps[q]?.getD undef = v := by simpa using hq
  simp [results, h, hp', hq', asAddr, run_loadVar_mid (P := Tryz.prog) w g 0 37 hh.cells _ hg Tryz.underlying37 rfl k.size']
theorem results_head3 {fn : Func} {p q u : Tmp} (h : fn.results = #[.cell p 37, .tmp q, .tmp u]) (tmps : Array Value) (w : World) (g : Nat) (hh : Hd) (k : hh.Len) (v y : Value) (hp : tmps.getD p undef = .pointer (some ⟨g, 0, none⟩)) (hq : tmps.getD q undef = v) (hu : tmps.getD u undef = y) (hg : HdAt w g 0 hh) :
    (results fn tmps).run Tryz.prog w = .ok (.tuple #[.agg hh.cells.toArray, v, y]) w := by
  have hp' : tmps[p]?.getD undef = .pointer (some ⟨g, 0, none⟩) := by simpa using hp
  have hq' : tmps[q]?.getD undef = v := by simpa using hq
  have hu' : tmps[u]?.getD undef = y := by simpa using hu
  simp [results, h, hp', hq', hu', asAddr, run_loadVar_mid (P := Tryz.prog) w g 0 37 hh.cells _ hg Tryz.underlying37 rfl k.size']

set_option maxHeartbeats 1600000 in
theorem headOf_short (s : ByteArray) (w : World) (h : (rHd (s.data.toList, false)).2.2 = true) :
    Calls Tryz.prog 45 #[.string s] w fun e w' => e = .returned (.tuple #[.agg Hd.zero.cells.toArray, .bool false]) ∧ Below w.heap.size w w' := by
  obtain ⟨Z, hZ⟩ : ∃ Z : Array Value, Z = Hd.zero.cells.toArray := ⟨_, rfl⟩
  have HEX : Hid (∀ (a : Act) (o : Oper) (_ : o.op = .alloc 37) (W : World), (execOp a.eval o).run Tryz.prog W = .ok (.value (.pointer (some ⟨W.heap.size, 0, none⟩))) (W.alloc (.cells Z 37))) := Lib.hid (by rw [hZ]; exact fun _ _ ho W => exec_alloc_head ho W)
  obtain ⟨w1, hw1⟩ : ∃ w1, w1 = (w.alloc (.cells Z 37)).alloc (.cells #[.string s, .bool false] 125) := ⟨_, rfl⟩
  have hs1 : w1.heap.size = w.heap.size + 2 := by rw [hw1]; simp
  have hb1 : Below w.heap.size w w1 := by rw [hw1]; exact ((Below.refl _ _).alloc (Nat.le_refl _) _).alloc (by simp) _
  have hg1 : w1.heap[w.heap.size + 1]? = some (.cells #[.string s, .bool false] 125 (0, 0)) := by rw [hw1]; exact heap_alloc2_new w _ _
  have hv1 : HvAt w1 w.heap.size Hd.zero := by rw [hw1, hZ]; exact (HvAt.new w Hd.zero).block (Below.heap_alloc _ _ _ (by simp))
  have hr1 : RestP w1 (w.heap.size + 1) (s.data.toList, false) := ⟨s, ⟨by rw [Lib.cell_of_heap hg1]; rfl, by rw [Lib.cell_of_heap hg1]; rfl, fun j => Lib.frozen_of_heap hg1 _⟩, rfl⟩
  have HRH := Lib.hid (rhead_any (w.heap.size + 1) _ w1 hr1)
  rw [hw1] at HRH
  obtain ⟨f, hf⟩ : ∃ f, f = (rHd (s.data.toList, false)).1 := ⟨_, rfl⟩
  obtain ⟨y, hy⟩ : ∃ y, y = (rHd (s.data.toList, false)).2 := ⟨_, rfl⟩
  have hfl : f.Len := by rw [hf]; exact rHd_len _
  rw [← hf, ← hy] at HRH
  rw [← hy] at h
  obtain ⟨F, hF⟩ : ∃ F : Array Value, F = f.cells.toArray := ⟨_, rfl⟩
  rw [← hF] at HRH
  have HS2 : Hid ((Tryz.prog.info? 37).map (·.size) = some F.size) := Lib.hid (by rw [hF]; exact hfl.size)
  have HA2 : Hid (F.all (·.oneCell') = true) := Lib.hid (by rw [hF]; exact Hd.all_one _)
  have HT2 : Hid (∀ W : World, (W.alloc (.cells Z 37)).there W.heap.size 0 F.size) := Lib.hid (fun W => by
    have := (HvAt.new W Hd.zero).there Hd.zero_len
    have e : F.size = 81 := by rw [hF, List.size_toArray, hfl.cells]
    rw [← hZ] at this
    rw [e]; exact this)
  have HK : Hid (∀ W : World, Kept (fun j => j = W.heap.size) (W.alloc (.cells Z 37)) ((W.alloc (.cells Z 37)).setCells W.heap.size 0 F.toList)) := Lib.hid (fun W => Kept.setCells (fun j => j = W.heap.size) _ (fb := W.heap.size) rfl _)
  have HH := Lib.hid h; have HW1 := Lib.hid hw1; have HB1 := Lib.hid hb1; have HV1 := Lib.hid hv1; have HS1 := Lib.hid hs1
  have hs2 := Hd.zero_len.size
  have ha1 := Hd.all_one Hd.zero
  have hb0 := built_head0
  rw [← hZ] at hs2 ha1 hb0
  have HZ2 := Lib.hid hs2; have HZA := Lib.hid ha1; have HB00 := Lib.hid hb0
  have hZl : Z.toList = Hd.zero.cells := by rw [hZ, List.toList_toArray]
  have HZL := Lib.hid hZl; have HZ := Lib.hid hZ
  clear h hZ hw1 hs1 hb1 hg1 hv1 hr1 hf hy hfl hF hs2 ha1 hb0 hZl
  go_enter Tryz.func45, Tryz.ntmps45
  go_wp2_with (refine wpList_val rfl _ (HEX.out _ _ rfl _) ?_)
  refine HRH.out.mono ?_
  rintro e w2 ⟨rfl, hr2, hk2⟩
  rw [← HW1.out] at hk2
  obtain ⟨w3, hw3⟩ : ∃ w3, w3 = (w2.alloc (.cells Z 37)).setCells w2.heap.size 0 F.toList := ⟨_, rfl⟩
  have hk13 : Kept (fun j => j = w.heap.size + 1) w1 w3 := by
    rw [hw3]
    exact (hk2.trans (Kept.ofBelow (S := fun j => j = w.heap.size + 1) ((Below.refl _ w2).alloc (Nat.le_refl _) _)) (fun _ hi => .inl hi)).trans (HK.out w2) (fun i hi => .inr (by have := hk2.size; omega))
  have hs2' := hk2.size
  have hr3 : RestP w3 (w.heap.size + 1) y := by
    have h1 := hr2.block (Below.heap_alloc w2 (.cells Z 37) _ hr2.lt)
    rw [hw3]
    exact h1.block ((HK.out w2).block (w.heap.size + 1) (by have := hr2.lt; simp; omega) (by have := hr2.lt; omega))
  obtain ⟨s3, hs3, _⟩ := hr3
  have c1 := hs3.short
  rw [HH.out] at c1
  have hv3 : HvAt w3 w.heap.size Hd.zero := HV1.out.kept hk13 (by omega)
  obtain ⟨hv4, hk4⟩ := hv3.put Hd.zero_len Hd.zero_len
  have HTH : Hid (w3.there w.heap.size 0 Z.size) := Lib.hid (by
    have e : Z.size = 81 := by rw [HZ.out, List.size_toArray, Hd.zero_len.cells]
    rw [e]; exact hv3.there Hd.zero_len)
  have HE : Hid (HdAt (w3.setCells w.heap.size 0 Hd.zero.cells) w.heap.size 0 Hd.zero ∧ Below w.heap.size w (w3.setCells w.heap.size 0 Hd.zero.cells)) := Lib.hid ⟨hv4.1, by
    have h0 := HS1.out
    have h1 : Below w.heap.size w1 w3 := hk13.toBelow (by omega) (fun i hi => by omega)
    exact (HB1.out.trans h1).trans (hk4.toBelow (Nat.le_trans (by omega) h1.size) (fun i hi => by omega))⟩
  have HW3 : Hid ((w2.alloc (.cells Z 37)).setCells w2.heap.size 0 F.toList = w3) := Lib.hid hw3.symm
  clear hr2 hk2 hw3 hk13 hs2' hs3 hv3 hv4 hk4
  go_wp2_with (first
    | (refine wpList_val rfl _ (HEX.out _ _ rfl _) ?_)
    | (refine wpList_store_mid rfl 37 _ _ rfl w2.heap.size 0 F (by rfl) (by rfl) (HT2.out w2) HS2.out HA2.out ?_; rw [HW3.out])
    | (refine wpList_val rfl _ (exec_build rfl [] (by simp [go_sem]) Z HB00.out _) ?_)
    | (refine wpList_store_mid rfl 37 _ _ rfl w.heap.size 0 Z (by rfl) (by rfl) HTH.out HZ2.out HZA.out ?_; rw [HZL.out]))
  exact bodyPost_ret (v := .tuple #[.agg Hd.zero.cells.toArray, .bool false]) (results_head2 Tryz.results45 _ _ w.heap.size Hd.zero Hd.zero_len _ (by rfl) (by rfl) HE.out.1) rfl ⟨rfl, HE.out.2⟩
end Go.Proofs.YtgboeolnojpehaaGreatDoor

/- What a whole record tells. -/
set_option maxRecDepth 100000
namespace Go.Proofs.YtgboeolnojpehaaGreatDoor
open Go.RowKit

def rPts : Nat → List UInt8 × Bool → List Pt × (List UInt8 × Bool)
  | 0, x => ([], x)
  | f + 1, x => if x.1 = [] then ([], x) else (⟨(rPt x).1.1, (rPt x).1.2.1, ⟨(rPt x).1.2.2.toArray⟩⟩ :: (rPts f (rPt x).2).1, (rPts f (rPt x).2).2)

theorem rTk_le (l : List UInt8) (sh : Bool) (n : Nat) : (rTk l sh n).2.1.length ≤ l.length := by
  unfold rTk
  split
  · simp
  · simp
theorem rTk_lt (l : List UInt8) (sh : Bool) (n : Nat) (hn : 0 < n) (hl : l ≠ []) : (rTk l sh n).2.1.length < l.length := by
  have h0 : 0 < l.length := List.length_pos_iff.2 hl
  unfold rTk
  split
  · simpa using h0
  · simp only [List.length_drop]; omega
theorem rPt_lt (x : List UInt8 × Bool) (hl : x.1 ≠ []) : (rPt x).2.1.length < x.1.length := by
  have h1 := rTk_lt x.1 x.2 2 (by omega) hl
  have h2 := rTk_le (rNum x 2).2.1 (rNum x 2).2.2 2
  have h3 := rTk_le (rNum (rNum x 2).2 2).2.1 (rNum (rNum x 2).2 2).2.2 2
  have h4 := rTk_le (rNum (rNum (rNum x 2).2 2).2 2).2.1 (rNum (rNum (rNum x 2).2 2).2 2).2.2 (rNum (rNum (rNum x 2).2 2).2 2).1
  unfold rPt
  simp only [rNum] at *
  omega

theorem infoPt : (Tryz.prog.info? 128).map (fun i => (i.zero, i.size, i.bytes)) = some (some (.agg #[.int .i64 0, .int .i64 0, .string ⟨#[]⟩]), 3, 32) := by kernel_rfl

/-- How many bytes are left. -/
def restLen (w : World) (r : Nat) : Nat := match w.cell? ⟨r, 0, none⟩ with | some (.string s) => s.size | _ => 0
theorem RestP.len {w : World} {r : Nat} {x : List UInt8 × Bool} (h : RestP w r x) : restLen w r = x.1.length := by
  obtain ⟨s, h1, h2⟩ := h
  unfold restLen
  rw [h1.b, ← h2]; rfl

set_option maxHeartbeats 3200000 in
theorem actionOf_ok (s : ByteArray) (h : Hd) (x1 z : List UInt8 × Bool) (ps : List Pt) (w : World) (hh : rHd (s.data.toList, false) = (h, x1)) (hp : rPts x1.1.length x1 = (ps, z)) (hz : z.2 = false) (hps : ps.length ≤ 4194304) :
    Calls Tryz.prog 46 #[.string s] w fun e w' => ∃ v, e = .returned (.tuple #[.agg h.cells.toArray, v, .bool true]) ∧ PtsAt w.heap.size w' v ps ∧ Below w.heap.size w w' := by
  obtain ⟨ip, hip, q0, q1, q2⟩ := info_parts infoPt
  obtain ⟨Z, hZ⟩ : ∃ Z : Array Value, Z = Hd.zero.cells.toArray := ⟨_, rfl⟩
  have HEX : Hid (∀ (a : Act) (o : Oper) (_ : o.op = .alloc 37) (W : World), (execOp a.eval o).run Tryz.prog W = .ok (.value (.pointer (some ⟨W.heap.size, 0, none⟩))) (W.alloc (.cells Z 37))) := Lib.hid (by rw [hZ]; exact fun _ _ ho W => exec_alloc_head ho W)
  obtain ⟨w1, hw1⟩ : ∃ w1, w1 = (w.alloc (.cells Z 37)).alloc (.cells #[.string s, .bool false] 125) := ⟨_, rfl⟩
  have hs1 : w1.heap.size = w.heap.size + 2 := by rw [hw1]; simp
  have hb1 : Below w.heap.size w w1 := by rw [hw1]; exact ((Below.refl _ _).alloc (Nat.le_refl _) _).alloc (by simp) _
  have hg1 : w1.heap[w.heap.size + 1]? = some (.cells #[.string s, .bool false] 125 (0, 0)) := by rw [hw1]; exact heap_alloc2_new w _ _
  have hv1 : HvAt w1 w.heap.size Hd.zero := by rw [hw1, hZ]; exact (HvAt.new w Hd.zero).block (Below.heap_alloc _ _ _ (by simp))
  have hr1 : RestP w1 (w.heap.size + 1) (s.data.toList, false) := ⟨s, ⟨by rw [Lib.cell_of_heap hg1]; rfl, by rw [Lib.cell_of_heap hg1]; rfl, fun j => Lib.frozen_of_heap hg1 _⟩, rfl⟩
  have HRH := rhead_any (w.heap.size + 1) _ w1 hr1
  have hfl : h.Len := by have := rHd_len (s.data.toList, false); rw [hh] at this; exact this
  rw [hh] at HRH
  obtain ⟨F, hF⟩ : ∃ F : Array Value, F = h.cells.toArray := ⟨_, rfl⟩
  simp only at HRH
  rw [← hF, hw1] at HRH
  have HRHH := Lib.hid HRH
  clear HRH
  have HS2 : Hid ((Tryz.prog.info? 37).map (·.size) = some F.size) := Lib.hid (by rw [hF]; exact hfl.size)
  have HSL : Hid ((Tryz.prog.info? 37).map (·.size) = some F.toList.length) := Lib.hid (by rw [hF, List.toList_toArray]; exact hfl.size')
  have HA2 : Hid (F.all (·.oneCell') = true) := Lib.hid (by rw [hF]; exact Hd.all_one _)
  have HT2 : Hid (∀ W : World, (W.alloc (.cells Z 37)).there W.heap.size 0 F.size) := Lib.hid (fun W => by
    have := (HvAt.new W Hd.zero).there Hd.zero_len
    have e : F.size = 81 := by rw [hF, List.size_toArray, hfl.cells]
    rw [← hZ] at this
    rw [e]; exact this)
  have HP2 : Hid (∀ W : World, HvAt ((W.alloc (.cells Z 37)).setCells W.heap.size 0 F.toList) W.heap.size h ∧ Kept (fun j => j = W.heap.size) (W.alloc (.cells Z 37)) ((W.alloc (.cells Z 37)).setCells W.heap.size 0 F.toList)) := Lib.hid (fun W => by
    have := (HvAt.new W Hd.zero).put Hd.zero_len hfl
    rw [← hZ] at this
    rw [hF, List.toList_toArray]; exact this)
  have HW1 := Lib.hid hw1; have HB1 := Lib.hid hb1; have HV1 := Lib.hid hv1; have HS1 := Lib.hid hs1
  have HFL := Lib.hid hfl; have HF := Lib.hid hF; have HP := Lib.hid hp; have HZZ := Lib.hid hz; have HZ := Lib.hid hZ
  clear hh hp hz hZ hw1 hs1 hb1 hg1 hv1 hr1 hfl hF
  go_enter Tryz.func46, Tryz.ntmps46
  go_wp2_with (refine wpList_val rfl _ (HEX.out _ _ rfl _) ?_)
  refine HRHH.out.mono ?_
  rintro e w2 ⟨rfl, hr2, hk2⟩
  rw [← HW1.out] at hk2
  obtain ⟨b4, hb4⟩ : ∃ b4, b4 = w2.heap.size := ⟨_, rfl⟩
  obtain ⟨w3, hw3⟩ : ∃ w3, w3 = (w2.alloc (.cells Z 37)).setCells w2.heap.size 0 F.toList := ⟨_, rfl⟩
  obtain ⟨hv3, hk3⟩ := HP2.out w2
  rw [← hw3, ← hb4] at hv3
  have hk13 : Kept (fun j => j = w.heap.size + 1) w1 w3 := by
    rw [hw3]
    exact (hk2.trans (Kept.ofBelow (S := fun j => j = w.heap.size + 1) ((Below.refl _ w2).alloc (Nat.le_refl _) _)) (fun _ hi => .inl hi)).trans hk3 (fun i hi => .inr (by have := hk2.size; omega))
  have hs2' := hk2.size
  have hr3 : RestP w3 (w.heap.size + 1) x1 := by
    have h1 := hr2.block (Below.heap_alloc w2 (.cells Z 37) _ hr2.lt)
    rw [hw3]
    exact h1.block (hk3.block (w.heap.size + 1) (by have := hr2.lt; simp; omega) (by have := hr2.lt; omega))
  have HVR : Hid (HvAt w3 w.heap.size Hd.zero) := Lib.hid (HV1.out.kept hk13 (by omega))
  have hbw3 : Below w.heap.size w w3 := HB1.out.trans (hk13.toBelow (by have := HS1.out; omega) (fun i hi => by omega))
  have HW3 : Hid ((w2.alloc (.cells Z 37)).setCells w2.heap.size 0 F.toList = w3) := Lib.hid hw3.symm
  have HR3 := Lib.hid hr3; have HV3 := Lib.hid hv3; have HB3 := Lib.hid hbw3; have HB4 := Lib.hid hb4
  have hw3s : w.heap.size + 2 < w3.heap.size := by have := hv3.lt; have := HS1.out; omega
  have hlo : w.heap.size + 2 ≤ b4 := by have := HS1.out; omega
  have HLO := Lib.hid hlo
  have HBW : Hid (b4 < w3.heap.size) := Lib.hid hv3.lt
  clear hr2 hk2 hb4 hw3 hv3 hk3 hk13 hs2' hr3 hbw3 hlo
  go_wp2_with (first
    | (refine wpList_val rfl _ (HEX.out _ _ rfl _) ?_)
    | (refine wpList_store_mid rfl 37 _ _ rfl w2.heap.size 0 F (by rfl) (by rfl) (HT2.out w2) HS2.out HA2.out ?_; rw [HW3.out]))
  obtain ⟨B3, hB3⟩ : ∃ B3, B3 = w3.heap.size := ⟨_, rfl⟩
  have HBE := Lib.hid hB3
  rw [← hB3] at hw3s HBW
  clear hB3
  have hrB : w.heap.size + 1 < B3 := by omega
  go_loopw [7] (fun v wr => ∃ (x : List UInt8 × Bool) (f m c : Nat) (a : Option Addr) (acc : List Pt), v = .slice a m c ∧ Hid (m = acc.length ∧ x.1.length ≤ f ∧ acc ++ (rPts f x).1 = ps ∧ (rPts f x).2 = z) ∧ Hid (RestP wr (w.heap.size + 1) x) ∧ Hid (PtsAt B3 wr (.slice a m c) acc) ∧ Hid (Kept (fun j => j = w.heap.size + 1) w3 wr)) (fun _ wr => restLen wr (w.heap.size + 1))
  case atStart => exact ⟨x1, x1.1.length, 0, 0, none, [], rfl, Lib.hid ⟨rfl, Nat.le_refl _, by rw [HP.out]; rfl, by rw [HP.out]⟩, HR3, Lib.hid ⟨rfl, .inl ⟨rfl, rfl⟩⟩, Lib.hid (Kept.refl _ _)⟩
  case round =>
    obtain ⟨x, f, m, c, a, acc, rfl, hm, hr, ho, hk⟩ := hrel
    obtain ⟨s', hs', hsl'⟩ := hr.out
    have cs := hs'.b
    have csh := hs'.short
    by_cases hnil : x.1 = []
    · have hte : s'.toList.isEmpty = true := by rw [ByteArray.toList_eq, hsl', hnil]; rfl
      have hx : rPts f x = ([], x) := by cases f with
        | zero => rfl
        | succ f => unfold rPts; rw [if_pos hnil]
      have hxe := hm.out.2.2.2
      rw [hx] at hxe
      have hacc := hm.out.2.2.1
      rw [hx, List.append_nil] at hacc
      simp only at hxe hacc
      rw [hxe, HZZ.out] at csh
      have hvk : HvAt wr b4 h := HV3.out.kept hk.out (by have := HLO.out; omega)
      have hvr : HvAt wr w.heap.size Hd.zero := HVR.out.kept hk.out (by omega)
      obtain ⟨hv7, hk7⟩ := hvr.put Hd.zero_len HFL.out
      have HE : Hid (HdAt (wr.setCells w.heap.size 0 h.cells) w.heap.size 0 h ∧ PtsAt w.heap.size (wr.setCells w.heap.size 0 h.cells) (.slice a m c) ps ∧ Below w.heap.size w (wr.setCells w.heap.size 0 h.cells)) := Lib.hid ⟨hv7.1, by
        rw [← hacc]
        have h0 := ho.out
        have h1 : wr.ownsRow w.heap.size 128 3 (.slice a m c) acc.length (acc.flatMap Pt.cells) := ⟨h0.1, h0.2.imp id (fun ⟨g, cap, cur, hv, hb, r⟩ => ⟨g, cap, cur, hv, by omega, r⟩)⟩
        exact ownsRow_of_block h1 (fun k hk => hk7.block k (World.ownsRow.lt h0 k hk).2 (by have := (World.ownsRow.lt h0 k hk).1; omega)), (HB3.out.trans (hk.out.toBelow (by have := HBE.out; omega) (fun i hi => by omega))).trans (hk7.toBelow (by have := hk.out.size; have := HBE.out; omega) (fun i hi => by omega))⟩
      have HRG : Hid (wr.rangeAt w2.heap.size 0 F.toList) := Lib.hid (by rw [← HB4.out, HF.out, List.toList_toArray]; exact hvk.1)
      have HTH : Hid (wr.there w.heap.size 0 F.toList.toArray.size) := Lib.hid (by
        have e : F.toList.toArray.size = 81 := by rw [HF.out]; simp [HFL.out.cells]
        rw [e]; exact hvr.there Hd.zero_len)
      have HS4 : Hid ((Tryz.prog.info? 37).map (·.size) = some F.toList.toArray.size) := Lib.hid (by rw [List.size_toArray]; exact HSL.out)
      have HA4 : Hid (F.toList.toArray.all (·.oneCell') = true) := Lib.hid HA2.out
      have HFT : Hid (F.toList = h.cells) := Lib.hid (by rw [HF.out, List.toList_toArray])
      clear hs' hsl' hnil hx hxe hacc hvk hvr hv7 hk7
      go_wp2_with (first
        | (refine wpList_load_mid rfl 37 _ rfl w2.heap.size 0 (by rfl) F.toList _ HRG.out Tryz.underlying37 rfl HSL.out ?_)
        | (refine wpList_store_mid rfl 37 _ _ rfl w.heap.size 0 F.toList.toArray (by rfl) (by rfl) HTH.out HS4.out HA4.out ?_; rw [List.toList_toArray, HFT.out]))
      exact bodyPost_ret (v := .tuple #[.agg h.cells.toArray, .slice a m c, .bool true]) (results_head3 Tryz.results46 _ _ w.heap.size h HFL.out _ _ (by rfl) (by rfl) (by rfl) HE.out.1) rfl ⟨_, rfl, HE.out.2⟩
    · have hte : s'.toList.isEmpty = false := by
        rw [ByteArray.toList_eq, hsl']
        cases e : x.1 with
        | nil => exact absurd e hnil
        | cons c r => rfl
      obtain ⟨f', rfl⟩ : ∃ f', f = f' + 1 := ⟨f - 1, by have h1 := hm.out.2.1; have h2 : 0 < x.1.length := List.length_pos_iff.2 hnil; omega⟩
      have hpa := rpatch_any (w.heap.size + 1) x wr hr.out
      obtain ⟨pg, hpg⟩ : ∃ n, n = (rPt x).1.1 := ⟨_, rfl⟩
      obtain ⟨pa, hpae⟩ : ∃ n, n = (rPt x).1.2.1 := ⟨_, rfl⟩
      obtain ⟨y, hy⟩ : ∃ y, y = (rPt x).2 := ⟨_, rfl⟩
      have hlt := rPt_lt x hnil
      have hstep : rPts (f' + 1) x = (⟨pg, pa, ⟨(rPt x).1.2.2.toArray⟩⟩ :: (rPts f' y).1, (rPts f' y).2) := by
        rw [hpg, hpae, hy]
        conv => lhs; unfold rPts
        rw [if_neg hnil]
      rw [← hpg, ← hpae, ← hy] at hpa
      rw [← hy] at hlt
      have hm' := hm.out
      rw [hstep] at hm'
      have hlen := hr.out.len
      have HPA := Lib.hid hpa; have HM := Lib.hid hm'; have HLT := Lib.hid hlt; have HLEN := Lib.hid hlen
      have hm0 : m < 4194304 := by
        have h1 := hm'.1
        have h2 := congrArg List.length hm'.2.2.1
        simp at h2
        omega
      clear hpa hpg hpae hy hlt hstep hm' hlen hm hs' hsl' hnil csh
      go_wp2_with fail
      refine HPA.out.mono ?_
      rintro e w5 ⟨t, rfl, ht, hr5, hk5⟩
      have hk35 := hk.out.trans hk5 (fun _ hi => .inl hi)
      have ho5 : w5.ownsRow B3 128 3 (.slice a m c) m (acc.flatMap Pt.cells) := by
        have h0 := ho.out
        unfold PtsAt at h0
        rw [← HM.out.1] at h0
        exact ownsRow_of_block h0 (fun k hkk => hk5.block k (World.ownsRow.lt h0 k hkk).2 (by have := (World.ownsRow.lt h0 k hkk).1; omega))
      have HO5 := Lib.hid ho5; have HK5 := Lib.hid hk35; have HR5 := Lib.hid hr5
      have HTT : Hid (t = ⟨(rPt x).1.2.2.toArray⟩) := Lib.hid (by rw [← ht])
      have hB5 : B3 ≤ w5.heap.size := by have := hk35.size; have := HBE.out; omega
      clear ho5 hk35 hr5 hk5 ht
      go_wp2_with (at_builtin; refine wpList_append_own _ rfl _ _ 87 rfl B3 128 ip (.agg #[.int .i64 0, .int .i64 0, .string ⟨#[]⟩]) 3 32 Tryz.underlying87 hip q0 q1 q2 rfl (by decide) _ _ _ rfl (HO5.out.alloc _) ⟨w5.heap.size, 0, none⟩ 1 1 [.int .i64 pg, .int .i64 pa, .string t] rfl rfl ?c1 ?c2 ?c3 ?c4 ?c5 ?_)
      case c1 =>
        intro q u hu
        have hq : q = 0 ∨ q = 1 ∨ q = 2 := by
          have := (List.getElem?_eq_some_iff.1 hu).1
          simp at this
          omega
        have hg := heap_alloc_new w5 (.cells #[.int .i64 pg, .int .i64 pa, .string t] 128)
        rw [add_lit', Nat.zero_add, Lib.cell_of_heap hg]
        rcases hq with rfl | rfl | rfl <;> exact hu
      case c2 =>
        intro u hu
        simp only [List.mem_cons, List.not_mem_nil, or_false] at hu
        rcases hu with rfl | rfl | rfl <;> rfl
      case c3 => unfold maxLen; omega
      case c4 => omega
      case c5 => simp; omega
      intro v6 w6 hown6 hgrow6 _
      obtain ⟨a6, c6, rfl⟩ : ∃ a c, v6 = .slice a (m + 1) c := by
        rcases hown6.2 with ⟨_, h0⟩ | ⟨g', cap', cur, hv, _⟩
        · omega
        · exact ⟨_, cap', hv⟩
      have hlt5 := fun k hk => World.ownsRow.lt HO5.out k hk
      have hk6 : Kept (fun j => j = w.heap.size + 1) w3 w6 := (HK5.out.trans (Kept.ofBelow (S := fun j => j = w.heap.size + 1) ((Below.refl _ w5).alloc (Nat.le_refl _) _)) (fun _ hi => .inl hi)).trans (Kept.ofGrown (S := fun j => B3 ≤ j) hgrow6 (fun k hk => (hlt5 k hk).1)) (fun i hi => .inr (by have := HBE.out; omega))
      have hr6 : RestP w6 (w.heap.size + 1) y := (HR5.out.block (Below.heap_alloc _ _ _ HR5.out.lt)).block (hgrow6.block _ (by have := HR5.out.lt; simp; omega) (fun e => by have := (hlt5 _ e.symm).1; omega))
      have HO6 : Hid (PtsAt B3 w6 (.slice a6 (m + 1) c6) (acc ++ [⟨pg, pa, t⟩])) := Lib.hid (by
        unfold PtsAt
        rw [List.length_append, List.flatMap_append, ← HM.out.1]
        exact hown6)
      have HM6 : Hid (m + 1 = (acc ++ [(⟨pg, pa, t⟩ : Pt)]).length ∧ y.1.length ≤ f' ∧ (acc ++ [(⟨pg, pa, t⟩ : Pt)]) ++ (rPts f' y).1 = ps ∧ (rPts f' y).2 = z) := Lib.hid ⟨by rw [List.length_append, ← HM.out.1]; rfl, by have h1 := HLT.out; have h2 := HM.out.2.1; omega, by
        have h1 := HM.out.2.2.1
        rw [← HTT.out] at h1
        rw [List.append_assoc]; exact h1, HM.out.2.2.2⟩
      have HR6 := Lib.hid hr6; have HK6 := Lib.hid hk6
      have hmeas : restLen w6 (w.heap.size + 1) < restLen wr (w.heap.size + 1) := by rw [hr6.len, HLEN.out]; exact HLT.out
      have HME := Lib.hid hmeas
      clear hown6 hgrow6 hlt5 hk6 hr6 hmeas
      go_wp2
      go_roundw
      case rel => exact ⟨y, f', m + 1, c6, a6, _, rfl, HM6, HR6, HO6, HK6⟩
      case measure => exact HME.out
end Go.Proofs.YtgboeolnojpehaaGreatDoor

/- A patch's bytes as they are laid in; what patches make of pages. -/
set_option maxRecDepth 100000
namespace Go.Proofs.YtgboeolnojpehaaGreatDoor
open Go.RowKit

/-- What is laid in. -/
def Pt.bytes (p : Pt) : List UInt8 := if p.s.size = 0 then noughts else p.s.data.toList
def appP (C : Nat → List UInt8) (p : Pt) : Nat → List UInt8 := upd C p.page (splice (C p.page) p.at_ p.bytes)
def appC (C : Nat → List UInt8) (ps : List Pt) : Nat → List UInt8 := ps.foldl appP C
theorem appC_snoc (C : Nat → List UInt8) (ps : List Pt) (p : Pt) : appC C (ps ++ [p]) = appP (appC C ps) p := by simp [appC]
/-- A patch that fits. -/
def Pt.Fits (p : Pt) : Prop := p.page < 4096 ∧ p.at_ + p.bytes.length ≤ 512

def nul : ByteArray := ⟨#[0]⟩
theorem repeat_nul : Lib.repeatL nul.data.toList 512 = noughts := by decide +kernel

set_option maxHeartbeats 800000 in
theorem pbytes_any (p : Pt) (w : World) :
    Calls Tryz.prog 72 #[.agg #[.int .i64 p.page, .int .i64 p.at_, .string p.s]] w fun e w' => ∃ t : ByteArray, e = .returned (.string t) ∧ t.data.toList = p.bytes ∧ Below w.heap.size w w' := by
  obtain ⟨pg, pa, s⟩ := p
  simp only
  by_cases h0 : s.size = 0
  · have hnil : s.data.toList = [] := List.eq_nil_of_length_eq_zero (show s.data.toList.length = 0 from h0)
    have hte : s.toList.isEmpty = true := by rw [ByteArray.toList_eq, hnil]; rfl
    have hb : Pt.bytes ⟨pg, pa, s⟩ = noughts := by unfold Pt.bytes; rw [if_pos h0]
    rw [hb]
    have hrep := Tryz.strings_Repeat nul 512 (w.alloc (.cells #[.int .i64 pg, .int .i64 pa, .string s] 128)) (by omega) (by decide)
    rw [repeat_nul] at hrep
    obtain ⟨t, ht⟩ : ∃ t : ByteArray, t = ⟨noughts.toArray⟩ := ⟨_, rfl⟩
    have htl : t.data.toList = noughts := by rw [ht]
    rw [← ht] at hrep
    have HRP := Lib.hid hrep; have HTL := Lib.hid htl
    clear h0 hnil hb hrep ht htl
    go_enter Tryz.func72, Tryz.ntmps72
    go_wp2_with fail
    refine HRP.out.mono ?_
    rintro e w' ⟨rfl, hb⟩
    have HB := Lib.hid (((Below.refl _ w).alloc (Nat.le_refl _) (.cells #[.int .i64 pg, .int .i64 pa, .string s] 128)).trans (hb.mono (by simp)))
    clear hb
    go_wp2
    go_ret
    exact ⟨t, rfl, HTL.out, HB.out⟩
  · have hte : s.toList.isEmpty = false := by
      rw [ByteArray.toList_eq]
      cases e : s.data.toList with
      | nil => exact absurd (show s.size = 0 from by have : s.data.toList.length = s.size := rfl; rw [e] at this; exact this.symm) h0
      | cons c r => rfl
    have hb : Pt.bytes ⟨pg, pa, s⟩ = s.data.toList := by unfold Pt.bytes; rw [if_neg h0]
    rw [hb]
    clear hb h0
    go_enter Tryz.func72, Tryz.ntmps72
    go_wp2
    go_ret
    exact ⟨s, rfl, rfl, (Below.refl _ w).alloc (Nat.le_refl _) _⟩
end Go.Proofs.YtgboeolnojpehaaGreatDoor

/- store.apply: patches laid into pages, and the head. -/
set_option maxRecDepth 100000
namespace Go.Proofs.YtgboeolnojpehaaGreatDoor
open Go.RowKit

theorem Turn.not {S S' : Nat → Prop} {w w' : World} (h : Turn S w S' w') {k : Nat} (hk : k < w.heap.size) (hn : ¬ S k) : ¬ S' k := fun h' => hn (h.2 k hk h')
theorem Turn.ofBelow {S : Nat → Prop} {w w' : World} (h : Below w.heap.size w w') : Turn S w S w' := ⟨Kept.ofBelow h, fun _ _ h => h⟩
theorem upd_back (P : Nat → Nat) (q : Nat) : upd (upd P q (P q + 1)) q (upd P q (P q + 1) q - 1) = P := by
  funext k
  by_cases hk : k = q
  · subst hk; rw [upd_same, upd_same]; omega
  · rw [upd_other _ _ hk, upd_other _ _ hk]
section
variable {w : World} {s d l p : Nat} {h h' : Hd} {cur : Option Nat}
theorem SpaceAt.there (x : SpaceAt w s d l p h cur) (k : h.Len) : w.there s 4 81 := fun j hj => ⟨by rw [x.hd j _ (List.getElem?_eq_getElem (by rw [k.cells]; exact hj))]; rfl, x.froz _⟩
theorem SpaceAt.setLast (x : SpaceAt w s d l p h cur) (k : h.Len) (k' : h'.Len) : SpaceAt (w.setCells s 4 h'.cells) s d l p h' cur := by
  obtain ⟨h1, ht, _⟩ := there_setCells_hd (x.there k) h' k'
  exact ⟨(ht.out 0 (by omega)).trans x.self, (ht.out 1 (by omega)).trans x.dk, (ht.out 2 (by omega)).trans x.lg, (ht.out 3 (by omega)).trans x.pl, h1, (ht.out 85 (by omega)).trans x.cur_, fun j => (ht.froz j).trans (x.froz j)⟩
end

def ApplyPost (J : List RawOp → Prop) (B : Nat) (S : Nat → Prop) (s d l p n : Nat) (C : Nat → List UInt8) (P : Nat → Nat) (N : Nat) (h' : Hd) (cur : Option Nat) (ps : List Pt) (w : World) (e : Ending) (w' : World) : Prop :=
  e = .returned (.tuple #[]) ∧ ∃ S', Kept (fun k => S k ∨ k = s) w w' ∧ (∀ k, k < w.heap.size → S' k → S k) ∧ PoolJ J B S' p d n (appC C ps) P (N + 3 * ps.length) w' ∧ SpaceAt w' s d l p h' cur

set_option maxHeartbeats 3200000 in
theorem apply_any (J : List RawOp → Prop) (B : Nat) (S : Nat → Prop) (s d l p n : Nat) (C : Nat → List UInt8) (P : Nat → Nat) (N : Nat) (h h' : Hd) (cur : Option Nat) (v : Value) (ps : List Pt) (Bp : Nat) (w : World)
    (x : SpaceAt w s d l p h cur) (k : h.Len) (k' : h'.Len) (hs : ¬ S s) (g : PoolJ J B S p d n C P N w) (hl : PtsAt Bp w v ps) (hlS : ∀ b, v.ownBlock = some b → ¬ S b) (hf : ∀ p ∈ ps, p.Fits) (hP : pinnedN P ≠ n) (hN : N + 3 * ps.length ≤ 4398046511104)
    (hcl : ∀ ops q bs, J ops → J (ops ++ [.put 1 (q * 512) bs])) :
    Calls Tryz.prog 47 #[.pointer (some ⟨s, 1, none⟩), .agg h'.cells.toArray, v] w (ApplyPost J B S s d l p n C P N h' cur ps w) := by
  obtain ⟨va, vc, rfl⟩ := hl.shape
  obtain ⟨X, hX⟩ : ∃ X, X = h'.cells.toArray := ⟨_, rfl⟩
  rw [← hX]
  obtain ⟨wb, hwb⟩ : ∃ wb, wb = w.alloc (.cells X 37) := ⟨_, rfl⟩
  have hbb : Below w.heap.size w wb := by rw [hwb]; exact (Below.refl _ _).alloc (Nat.le_refl _) _
  have hvb : HvAt wb w.heap.size h' := by rw [hwb, hX]; exact HvAt.new w h'
  have hsl := x.lt
  have hXB : Hid (¬ S w.heap.size) := Lib.hid (fun hh => by have := (g.low _ hh).2; omega)
  have HWB := Lib.hid hwb
  have HG := Lib.hid (g.below hbb)
  have HX := Lib.hid (x.below hbb)
  have HL := Lib.hid (hl.below hbb)
  have HBB := Lib.hid hbb; have HVB := Lib.hid hvb; have HLS := Lib.hid hlS; have HF := Lib.hid hf; have HP := Lib.hid hP; have HCL := Lib.hid hcl; have HK := Lib.hid k; have HK' := Lib.hid k'; have HS := Lib.hid hs; have HXX := Lib.hid hX
  have HSL := Lib.hid hsl
  obtain ⟨m, hm⟩ : ∃ m, m = ps.length := ⟨_, rfl⟩
  have hn63 : m ≤ 9223372036854775807 := by
    rcases hl.2 with ⟨_, h0⟩ | ⟨g, cap, cur, hv, _, _, h1, h2, _⟩
    · omega
    · unfold maxLen at h2; omega
  have HM := Lib.hid hm
  have HN := Lib.hid hN
  rw [← hm]
  clear hwb hbb hvb hX g x hl hlS hf hP hcl k k' hs hm hN
  go_enter Tryz.func47, Tryz.ntmps47
  go_wp2
  rw [HWB.out.symm]
  have HT0 : Hid (∃ S', Turn S wb S' wb ∧ PoolJ J B S' p d n (appC C (ps.take 0)) P (N + 3 * 0) wb) := Lib.hid ⟨S, Turn.refl _ _, HG.out⟩
  go_loopw [10] (fun i wr => ∃ q : Nat, q ≤ m ∧ i = .int .i64 q ∧ Hid (∃ S', Turn S wb S' wr ∧ PoolJ J B S' p d n (appC C (ps.take q)) P (N + 3 * q) wr)) (fun i _ => m - (intOf i).toNat)
  case atStart => exact ⟨0, by omega, rfl, HT0⟩
  case round =>
    obtain ⟨q, hq, rfl, hinv⟩ := hrel
    obtain ⟨S1, hT1, hJ1⟩ := hinv.out
    clear hinv
    have hsb : s < wb.heap.size := by have := HBB.out.size; have := HSL.out; omega
    have hxr : SpaceAt wr s d l p h cur := HX.out.kept hT1.1 HS.out
    have hsr : s < wr.heap.size := hxr.lt
    have hs1 : ¬ S1 s := hT1.not hsb HS.out
    by_cases hlt : q < m
    · have hlt' : q < ps.length := by rw [← HM.out]; exact hlt
      have hqn : (q : Int) < m := by omega
      obtain ⟨g, rfl, hBg, hgl, e0, e1, e2⟩ := HL.out.at hlt'
      obtain ⟨pt, hpe⟩ : ∃ pt, pt = ps[q] := ⟨_, rfl⟩
      have hmem : pt ∈ ps := by rw [hpe]; exact List.getElem_mem hlt'
      rw [← hpe] at e0 e1 e2
      have hgb : wr.heap[g]? = wb.heap[g]? := hT1.1.block g hgl (HLS.out g rfl)
      replace e0 := (World.cell?_of_block hgb).trans e0
      replace e1 := (World.cell?_of_block hgb).trans e1
      replace e2 := (World.cell?_of_block hgb).trans e2
      have HFT := Lib.hid (HF.out pt hmem)
      have HTK : Hid (appC C (ps.take (q + 1)) = appP (appC C (ps.take q)) pt) := Lib.hid (by rw [List.take_succ_eq_append_getElem hlt', appC_snoc, hpe])
      have hNq : N + 3 * q + 3 ≤ 4398046511104 := by have := HN.out; omega
      obtain ⟨C1, hC1⟩ : ∃ C1, C1 = appC C (ps.take q) := ⟨_, rfl⟩
      rw [← hC1] at hJ1 HTK
      obtain ⟨M, hM⟩ : ∃ M, M = N + 3 * q := ⟨_, rfl⟩
      rw [← hM] at hJ1 hNq
      have HM3 := Lib.hid hM
      clear hmem hpe hlt' hgb hC1 hM
      obtain ⟨pg, pa, str⟩ := pt
      simp only at e0 e1 e2
      obtain ⟨W0, hW0⟩ : ∃ W0, W0 = wr.alloc (.cells #[.int .i64 pg, .int .i64 pa, .string str] 128) := ⟨_, rfl⟩
      have hb0 : Below wr.heap.size wr W0 := by rw [hW0]; exact (Below.refl _ _).alloc (Nat.le_refl _) _
      have hg0 : W0.heap[wr.heap.size]? = some (.cells #[.int .i64 pg, .int .i64 pa, .string str] 128 (0, 0)) := by rw [hW0]; exact heap_alloc_new wr _
      have hz0 : W0.heap.size = wr.heap.size + 1 := by rw [hW0]; simp
      have hJ0 := hJ1.below hb0
      have hc1 : ¬ S1 wr.heap.size := fun hh => by have := (hJ1.low _ hh).2; omega
      have hT0 : Turn S wb S1 W0 := hT1.trans (Turn.ofBelow hb0)
      have hx0 := hxr.below hb0
      obtain ⟨T, hT⟩ : ∃ T : ByteArray, T = ⟨(Pt.bytes ⟨pg, pa, str⟩).toArray⟩ := ⟨_, rfl⟩
      have hTl : T.data.toList = Pt.bytes ⟨pg, pa, str⟩ := by rw [hT]
      have hpg : pg < 4096 := HFT.out.1
      have hTs : pa + T.size ≤ 512 := by
        have h1 := HFT.out.2
        have h2 : T.data.toList.length = T.size := rfl
        rw [← h2, hTl]; exact h1
      -- what stays: the pool's pointer, the patch's own copy
      have HKP : Hid (∀ W : World, W.heap[s]? = W0.heap[s]? → W.heap[wr.heap.size]? = W0.heap[wr.heap.size]? → W.cell? ⟨s, 3, none⟩ = some (.pointer (some ⟨p, 0, none⟩)) ∧ W.cell? ⟨wr.heap.size, 0, none⟩ = some (.int .i64 pg) ∧ W.cell? ⟨wr.heap.size, 1, none⟩ = some (.int .i64 pa) ∧ W.cell? ⟨wr.heap.size, 2, none⟩ = some (.string str)) := Lib.hid (fun W h1 h2 => by
        have h3 := h2.trans hg0
        refine ⟨(World.cell?_of_block h1).trans hx0.pl, ?_, ?_, ?_⟩ <;> rw [Lib.cell_of_heap h3] <;> rfl)
      have HPI : Hid (∀ W, Below W0.heap.size W0 W → Calls Tryz.prog 49 #[.pointer (some ⟨p, 0, none⟩), .int .i64 pg] W fun e w' => e = .returned (.int .i64 0) ∧ W0.heap.size ≤ w'.heap.size ∧ w'.heap[s]? = W0.heap[s]? ∧ w'.heap[wr.heap.size]? = W0.heap[wr.heap.size]? ∧ Hid (∃ S2, Turn S wb S2 w' ∧ (¬ S2 s ∧ ¬ S2 wr.heap.size) ∧ PoolJ J B S2 p d n C1 (upd P pg (P pg + 1)) (M + 1) w')) := Lib.hid (fun W hb => by
        refine (pin_j J B S1 p d n C1 P M pg W (hJ0.below hb) (by omega) hpg (fun ops q => HCL.out ops q _)).mono ?_
        rintro e w' ⟨S2, hT2, ⟨_, _, h2, _⟩ | ⟨rfl, _, h3⟩⟩
        · exact absurd h2 HP.out
        · have hT3 : Turn S1 W0 S2 w' := (Turn.ofBelow hb).trans hT2
          exact ⟨rfl, hT3.1.size, hT3.1.block s (by omega) hs1, hT3.1.block wr.heap.size (by omega) hc1, Lib.hid ⟨S2, hT0.trans hT3, ⟨hT3.not (by omega) hs1, hT3.not (by omega) hc1⟩, h3⟩⟩)
      have hbd0 : Below W0.heap.size W0 W0.drew := (Below.refl _ _).drew
      obtain ⟨cn, hcn⟩ : ∃ cn, cn = wr.heap.size := ⟨_, rfl⟩
      rw [← hcn] at HKP HPI
      obtain ⟨k0, k1, k2, k3⟩ := HKP.out W0 rfl rfl
      have hpl := hxr.pl
      have HW0 := Lib.hid hW0; have HZ0 := Lib.hid hz0; have HTL := Lib.hid hTl
      have HBD := Lib.hid hbd0
      have HCN := Lib.hid hcn
      clear hb0 hg0 hz0 hJ0 hJ1 hc1 hT0 hx0 hT hTl hxr hs1 hT1 hbd0 hW0 hgl hBg hsb hcn
      go_wp2
      rw [← HW0.out, ← HCN.out]
      clear e0 e1 e2 hpl
      go_still_tail 6, (by kernel_rfl)
      go_wp2_with fail
      refine (HPI.out _ HBD.out).mono ?_
      rintro e w1 ⟨rfl, hz1, hb1, hc1, hpost1⟩
      obtain ⟨S2, hT2, ⟨hn1, hn2⟩, hJ2⟩ := hpost1.out
      clear k0 k1 k2 k3 hpost1
      obtain ⟨k0, k1, k2, k3⟩ := HKP.out w1 hb1 hc1
      have hz01 : s < W0.heap.size ∧ cn < W0.heap.size := by have := HZ0.out; rw [HCN.out]; omega
      have hsz1 : s < w1.heap.size ∧ cn < w1.heap.size := by omega
      have HKC : Hid (∀ W, Below w1.heap.size w1 W → W.cell? ⟨s, 3, none⟩ = some (.pointer (some ⟨p, 0, none⟩)) ∧ W.cell? ⟨cn, 0, none⟩ = some (.int .i64 pg) ∧ W.cell? ⟨cn, 1, none⟩ = some (.int .i64 pa) ∧ W.cell? ⟨cn, 2, none⟩ = some (.string str)) := Lib.hid (fun W hb => HKP.out W ((hb.block s hsz1.1).trans hb1) ((hb.block cn hsz1.2).trans hc1))
      have HBY : Hid (∀ W, Below w1.heap.size w1 W → Calls Tryz.prog 72 #[.agg #[.int .i64 pg, .int .i64 pa, .string str]] W fun e w' => e = .returned (.string T) ∧ Below w1.heap.size w1 w') := Lib.hid (fun W hb => (pbytes_any ⟨pg, pa, str⟩ W).mono fun e w' ⟨t, h1, h2, h3⟩ => by
        have h4 := h2.trans HTL.out.symm
        have h5 : t = T := by cases t; cases T; simp only [ByteArray.mk.injEq]; exact Array.toList_inj.1 h4
        exact ⟨by rw [h1, h5], hb.trans (h3.mono hb.size)⟩)
      have HWR : Hid (∀ W, Below w1.heap.size w1 W → Calls Tryz.prog 71 #[.pointer (some ⟨p, 0, none⟩), .int .i64 pg, .int .i64 pa, .string T] W fun e w' => e = .returned (.int .i64 0) ∧ (w'.cell? ⟨s, 3, none⟩ = some (.pointer (some ⟨p, 0, none⟩)) ∧ w'.cell? ⟨cn, 0, none⟩ = some (.int .i64 pg) ∧ w'.cell? ⟨cn, 1, none⟩ = some (.int .i64 pa) ∧ w'.cell? ⟨cn, 2, none⟩ = some (.string str)) ∧ Hid (w1.heap.size ≤ w'.heap.size ∧ w'.heap[s]? = W0.heap[s]? ∧ w'.heap[cn]? = W0.heap[cn]? ∧ ∃ S3, Turn S wb S3 w' ∧ (¬ S3 s ∧ ¬ S3 cn) ∧ PoolJ J B S3 p d n (upd C1 pg (splice (C1 pg) pa T.data.toList)) (upd P pg (P pg + 1)) (M + 1 + 1) w')) := Lib.hid (fun W hb => by
        refine (write_j (hJ2.below hb) pg pa T (by rw [upd_same]; omega) hTs).mono ?_
        rintro e w' ⟨rfl, S3, hT3, h3⟩
        have hT4 : Turn S2 w1 S3 w' := (Turn.ofBelow hb).trans hT3
        have b1 := hT4.1.block s hsz1.1 hn1
        have b2 := hT4.1.block cn hsz1.2 hn2
        exact ⟨rfl, HKP.out w' (b1.trans hb1) (b2.trans hc1), Lib.hid ⟨hT4.1.size, b1.trans hb1, b2.trans hc1, S3, hT2.trans hT4, ⟨hT4.not hsz1.1 hn1, hT4.not hsz1.2 hn2⟩, h3⟩⟩)
      have hbd1 := (Below.refl w1.heap.size w1).drew
      clear hT2 hn1 hn2 hJ2 hb1 hc1 hz01 hz1 hTs
      go_wp2_with fail
      go_region_held3 (fun w' => w'.cell? ⟨s, 3, none⟩ = some (.pointer (some ⟨p, 0, none⟩)) ∧ w'.cell? ⟨cn, 0, none⟩ = some (.int .i64 pg) ∧ w'.cell? ⟨cn, 1, none⟩ = some (.int .i64 pa) ∧ w'.cell? ⟨cn, 2, none⟩ = some (.string str)) (first | assumption | exact HKC.out _ (by assumption))
        (first
          | (go_at_call 72; refine (HBY.out _ (by assumption)).mono ?_; rintro e w' ⟨rfl, hb'⟩)
          | (go_at_call 71; refine (HWR.out _ (by assumption)).mono ?_; rintro e w2 ⟨rfl, hcl, hpost2⟩))
      obtain ⟨hz2, hb2, hc2, S3, hT3, ⟨hn3, hn4⟩, hJ3⟩ := hpost2.out
      have HUN : Hid (∀ W, Below w2.heap.size w2 W → Calls Tryz.prog 51 #[.pointer (some ⟨p, 0, none⟩), .int .i64 pg] W fun e w' => e = .returned (.int .i64 0) ∧ Hid (∃ S', Turn S wb S' w' ∧ PoolJ J B S' p d n (appC C (ps.take (q + 1))) P (N + 3 * (q + 1)) w')) := Lib.hid (fun W hb => by
        refine (unpin_j (hJ3.below hb) pg (by rw [upd_same]; omega) (by omega)).mono ?_
        rintro e w' ⟨rfl, S4, hT4, h4⟩
        rw [upd_back, HTL.out] at h4
        refine ⟨rfl, Lib.hid ⟨S4, (hT3.trans (Turn.ofBelow hb)).trans hT4, ?_⟩⟩
        rw [HTK.out, show N + 3 * (q + 1) = M + 1 + 1 + 1 by have := HM3.out; omega]
        exact h4)
      obtain ⟨g0, g1, g2, g3⟩ := HKP.out w2 hb2 hc2
      have HBD2 := Lib.hid ((Below.refl w2.heap.size w2).drew)
      clear hz2 hb2 hc2 hT3 hn3 hn4 hJ3 hpost2 k0 k1 k2 k3 hbd1 hsz1
      go_wp2
      go_still_tail 6, (by kernel_rfl)
      go_wp2_with fail
      refine (HUN.out _ HBD2.out).mono ?_
      rintro e w3 ⟨rfl, hend⟩
      go_wp2
      go_roundw
      case rel => exact ⟨q + 1, by omega, by go_num, hend⟩
      case measure => simp [intOf]; omega
    · obtain rfl : q = m := by omega
      have hvr : HvAt wr w.heap.size h' := HVB.out.kept hT1.1 hXB.out
      obtain ⟨fc, hfc⟩ : ∃ fc, fc = h'.cells := ⟨_, rfl⟩
      have hk' := HK'.out
      have hk := HK.out
      have h81 : fc.toArray.size = 81 := by rw [hfc, List.size_toArray, hk'.cells]
      have HTH : Hid (wr.there s 4 fc.toArray.size) := Lib.hid (by rw [h81]; exact hxr.there hk)
      have HRG : Hid (wr.rangeAt w.heap.size 0 fc) := Lib.hid (by rw [hfc]; exact hvr.1)
      have HS1 : Hid ((Tryz.prog.info? 37).map (·.size) = some fc.length) := Lib.hid (by rw [hfc]; exact hk'.size')
      have HS2 : Hid ((Tryz.prog.info? 37).map (·.size) = some fc.toArray.size) := Lib.hid (by rw [hfc]; exact hk'.size)
      have HA1 : Hid (fc.toArray.all (·.oneCell') = true) := Lib.hid (by rw [hfc]; exact Hd.all_one h')
      obtain ⟨_, _, hk3⟩ := there_setCells_hd (hxr.there hk) h' hk'
      have HE : Hid (ApplyPost J B S s d l p n C P N h' cur ps w (.returned (.tuple #[])) (wr.setCells s 4 fc)) := Lib.hid (by
        rw [hfc]
        refine ⟨rfl, S1, ((Kept.ofBelow (S := fun k => S k ∨ k = s) HBB.out).trans hT1.1 (fun i hi => .inl (.inl hi))).trans hk3 (fun i hi => .inl (.inr hi)), fun k hk hs => hT1.2 k (Nat.lt_of_lt_of_le hk HBB.out.size) hs, ?_, hxr.setLast hk hk'⟩
        have h1 := hJ1.kept hk3 (fun k _ hs e => hs1 (e ▸ hs))
        rw [HM.out, List.take_length] at h1
        exact h1)
      clear hvr hfc hk' hk h81 hk3 hxr hs1 hT1 hJ1
      go_wp2_with (first
        | (refine wpList_load_mid rfl 37 _ rfl w.heap.size 0 (by rfl) fc _ HRG.out Tryz.underlying37 rfl HS1.out ?_)
        | (refine wpList_store_mid rfl 37 _ _ rfl s 4 fc.toArray (by rfl) (by rfl) HTH.out HS2.out HA1.out ?_; rw [List.toList_toArray]))
      go_end0
      exact HE.out
end Go.Proofs.YtgboeolnojpehaaGreatDoor
