/- The document's set degrades. -/
import Derived.Test.YtpjpkpbfbbpmdaaDoorTSW
set_option maxRecDepth 100000
namespace Go.Proofs.YtpjpkpbfbbpmdaaDoor.Ts
open Go Go.RowKit

/-- The document's set as a value. -/
def rv (m : Nat) (a : Option Addr) (n c : Nat) (a' : Option Addr) (n' c' : Nat) : Value := .agg #[.int .i64 (m : Int), .slice a n c, .slice a' n' c']
/-- A value is the document's set s, its lists in no block of S. -/
def RAt (S : Nat → Prop) (w : World) (s : Tset) (v : Value) : Prop := ∃ a n c a' n' c', v = rv s.most a n c a' n' c' ∧ n = s.T.length ∧ n' = s.P.length ∧ NumsS S w a s.T ∧ NumsS S w a' s.P
theorem RAt.below {S : Nat → Prop} {w w' : World} {s : Tset} {v : Value} (h : RAt S w s v) (hb : Below w.heap.size w w') : RAt S w' s v := by
  obtain ⟨a, n, c, a', n', c', h1, h2, h3, h4, h5⟩ := h
  exact ⟨a, n, c, a', n', c', h1, h2, h3, h4.below hb, h5.below hb⟩
theorem RAt.kept {S : Nat → Prop} {w w' : World} {s : Tset} {v : Value} (h : RAt S w s v) (hk : Kept S w w') : RAt S w' s v := by
  obtain ⟨a, n, c, a', n', c', h1, h2, h3, h4, h5⟩ := h
  exact ⟨a, n, c, a', n', c', h1, h2, h3, h4.kept hk, h5.kept hk⟩
theorem RAt.mono {S T : Nat → Prop} {w : World} {s : Tset} {v : Value} (h : RAt S w s v) (hT : ∀ k, T k → S k) : RAt T w s v := by
  obtain ⟨a, n, c, a', n', c', h1, h2, h3, h4, h5⟩ := h
  exact ⟨a, n, c, a', n', c', h1, h2, h3, h4.mono hT, h5.mono hT⟩

def lenS (w : World) (b : Nat) : Nat :=
  match w.cell? ⟨b, 1, none⟩ with
  | some (.slice _ n _) => n
  | _ => 0
theorem off_take {T : List Nat} {p k : Nat} (h : k < T.length) : off p (T.take (k + 1)) = off p (T.take k) ++ if T[k] / 64 = p then [] else [T[k]] := by
  rw [List.take_succ_eq_append_getElem h]
  unfold off
  rw [List.filter_append]
  by_cases e : T[k] / 64 = p <;> simp [e]
theorem off_take_le (T : List Nat) (p k : Nat) : (off p (T.take k)).length ≤ T.length := by
  have h1 : (off p (T.take k)).length ≤ (T.take k).length := List.length_filter_le _ _
  have h2 : (T.take k).length ≤ T.length := by rw [List.length_take]; omega
  omega
theorem raw_few {T P : List Nat} (h : Raw T P) : P.length ≤ 262144 := by
  rcases srt_few 262144 P 0 h.sp (fun p hp => ⟨by omega, h.pl p hp⟩) with e | e
  · rw [e]; simp
  · omega

theorem froz_of {w : World} {b : Nat} {cs : Array Value} {t : TypeId} (h : w.heap[b]? = some (.cells cs t (0, 0))) (j : Nat) : w.frozen? ⟨b, j, none⟩ = false := by simp [World.frozen?, h]
theorem three {w : World} {b : Nat} {t : TypeId} {x0 x1 x2 : Value} (h : w.heap[b]? = some (.cells #[x0, x1, x2] t (0, 0))) (y0 y1 y2 : Value) :
    (((w.setCell ⟨b, 0, none⟩ y0).setCell ⟨b, 1, none⟩ y1).setCell ⟨b, 2, none⟩ y2).heap[b]? = some (.cells #[y0, y1, y2] t (0, 0)) := by
  have h1 := heap_setCell_same w b 0 _ t y0 h
  have h2 := heap_setCell_same _ b 1 _ t y1 h1
  have h3 := heap_setCell_same _ b 2 _ t y2 h2
  simpa using h3
theorem three_kept (S : Nat → Prop) {w : World} {b : Nat} (hb : S b) (y0 y1 y2 : Value) : Kept S w (((w.setCell ⟨b, 0, none⟩ y0).setCell ⟨b, 1, none⟩ y1).setCell ⟨b, 2, none⟩ y2) :=
  ((Kept.setCell S w hb y0).trans (Kept.setCell S _ hb y1) (fun _ e => .inl e)).trans (Kept.setCell S _ hb y2) (fun _ e => .inl e)

/-- What the document's turn leaves. -/
def RDeg (S : Nat → Prop) (most : Nat) (T P : List Nat) (w : World) (e : Ending) (w' : World) : Prop :=
  ∃ T' P' v, e = .returned v ∧ Deg most T P T' P' ∧ RAt S w' ⟨most, T', P'⟩ v ∧ Below w.heap.size w w'

def boxC (m : Nat) (a : Option Addr) (n c : Nat) (a' : Option Addr) (n' c' : Nat) : Array Value := #[.int .i64 (m : Int), .slice a n c, .slice a' n' c']
set_option maxHeartbeats 3200000 in
theorem rdegrades_any {S : Nat → Prop} {w : World} {a : Option Addr} {n c : Nat} {a' : Option Addr} {n' c' : Nat} {most : Nat} {T P : List Nat} (hn : n = T.length) (hn' : n' = P.length) (hT : NumsS S w a T) (hP : NumsS S w a' P) (hR : Raw T P) (hl : n ≤ 1000) (hm : most ≤ 64) (hS : ∀ k, S k → k < w.heap.size) :
    Calls Tryd.prog 32 #[rv most a n c a' n' c'] w (RDeg S most T P w) := by
  have hn2 : n' ≤ 262144 := by rw [hn']; exact raw_few hR
  have HN := Lib.hid hn; have HN' := Lib.hid hn'
  have HR := Lib.hid hR
  have HS := Lib.hid hS
  obtain ⟨W1, hW1⟩ : ∃ W1, W1 = (w.alloc (.cells #[.int .i64 (most : Int), .slice a n c, .slice a' n' c'] 27)).alloc (.cells #[.int .i64 0, .slice none 0 0, .slice none 0 0] 27) := ⟨_, rfl⟩
  have hb1 : Below w.heap.size w W1 := by rw [hW1]; exact ((Below.refl _ _).alloc (Nat.le_refl _) _).alloc (by simp) _
  obtain ⟨B, hB⟩ : ∃ B, B = w.heap.size := ⟨_, rfl⟩
  have hk0 : W1.heap[B]? = some (.cells (boxC most a n c a' n' c') 27 (0, 0)) := by
    rw [hW1, hB]
    have e1 : ((w.alloc (.cells #[.int .i64 (most : Int), .slice a n c, .slice a' n' c'] 27)).alloc (.cells #[.int .i64 0, .slice none 0 0, .slice none 0 0] 27)).heap[w.heap.size]? = (w.alloc (.cells #[.int .i64 (most : Int), .slice a n c, .slice a' n' c'] 27)).heap[w.heap.size]? := Below.heap_alloc _ _ _ (by simp)
    exact e1.trans (heap_alloc_new w _)
  have hk1 : W1.heap[B + 1]? = some (.cells #[.int .i64 0, .slice none 0 0, .slice none 0 0] 27 (0, 0)) := by
    rw [hW1, hB]
    have := heap_alloc_new (w.alloc (.cells #[.int .i64 (most : Int), .slice a n c, .slice a' n' c'] 27)) (.cells #[.int .i64 0, .slice none 0 0, .slice none 0 0] 27)
    simpa using this
  have hz1 : W1.heap.size = B + 2 := by rw [hW1, hB]; simp
  have hmo : ∀ k, (S k ∨ k = B ∨ k = B + 1) → S k ∨ w.heap.size ≤ k := by
    rintro k (h | h | h)
    · exact .inl h
    · exact .inr (by omega)
    · exact .inr (by omega)
  have HT : Hid (NumsS (fun k => S k ∨ k = B ∨ k = B + 1) W1 a T) := Lib.hid ((hT.more (T := fun k => S k ∨ k = B ∨ k = B + 1) hmo).below hb1)
  have HP : Hid (NumsS (fun k => S k ∨ k = B ∨ k = B + 1) W1 a' P) := Lib.hid ((hP.more (T := fun k => S k ∨ k = B ∨ k = B + 1) hmo).below hb1)
  have HK0 := Lib.hid hk0; have HK1 := Lib.hid hk1
  have HB1 := Lib.hid hb1
  have HW1 := Lib.hid hW1
  have HBE := Lib.hid hB
  have HSX : Hid (∀ k, (S k ∨ k = B ∨ k = B + 1) → k < B + 2) := Lib.hid (by
    rintro k (h | h | h)
    · have := hS k h; omega
    · omega
    · omega)
  clear hn hn' hT hP hR hS hb1 hk0 hk1 hW1 hB
  unfold rv
  go_enter Tryd.func32, Tryd.ntmps32
  go_wp2
  rw [← HW1.out, ← HBE.out]
  go_loopw [3] (fun _ wr => ∃ (T1 P1 : List Nat) (a1 : Option Addr) (n1 c1 : Nat) (a2 : Option Addr) (n2 c2 : Nat), Hid (wr.heap[B]? = some (.cells (boxC most a1 n1 c1 a2 n2 c2) 27 (0, 0))) ∧ Hid (wr.heap[B + 1]? = some (.cells #[.int .i64 0, .slice none 0 0, .slice none 0 0] 27 (0, 0))) ∧ n1 ≤ 1000 ∧ n2 ≤ 262144 ∧ Hid (n1 = T1.length) ∧ Hid (n2 = P1.length) ∧
      Hid (NumsS (fun k => S k ∨ k = B ∨ k = B + 1) wr a1 T1) ∧ Hid (NumsS (fun k => S k ∨ k = B ∨ k = B + 1) wr a2 P1) ∧ Hid (Raw T1 P1) ∧ Hid (∀ T' P', Deg most T1 P1 T' P' → Deg most T P T' P') ∧ Hid (Below w.heap.size w wr)) (fun _ wr => lenS wr B)
  case atStart => exact ⟨T, P, a, n, c, a', n', c', HK0, HK1, hl, hn2, HN, HN', HT, HP, HR, Lib.hid (fun _ _ h => h), HB1⟩
  case round =>
    obtain ⟨T1, P1, a1, n1, c1, a2, n2, c2, HB0, HBB, hl1, hl2, HN1, HN2, HT1, HP1, HR1, HD1, HW⟩ := hrel
    clear HT HP HK0 HK1 HB1 HW1 HN HN' HR
    have b0 : wr.cell? ⟨B, 0, none⟩ = some (.int .i64 (most : Int)) := Lib.cell_of_heap HB0.out 0
    have b1 : wr.cell? ⟨B, 1, none⟩ = some (.slice a1 n1 c1) := Lib.cell_of_heap HB0.out 1
    have b2 : wr.cell? ⟨B, 2, none⟩ = some (.slice a2 n2 c2) := Lib.cell_of_heap HB0.out 2
    have hBl : B < wr.heap.size := (Array.getElem?_eq_some_iff.1 HB0.out).1
    have hBl1 : B + 1 < wr.heap.size := (Array.getElem?_eq_some_iff.1 HBB.out).1
    have HLN : Hid (lenS wr B = n1) := Lib.hid (by unfold lenS; rw [b1])
    have f1 := froz_of HB0.out 1
    have f2 := froz_of HB0.out 2
    have q0 := froz_of HBB.out 0
    have q1 := froz_of HBB.out 1
    have q2 := froz_of HBB.out 2
    by_cases hlt : most < n1
    · have h1 : decide ((most : Int) < n1) = true := decide_eq_true (by omega)
      have h1' : decide (most < n1) = true := decide_eq_true (by omega)
      have HF := Lib.hid (rfullest_any c1 HT1.out HN1.out hl1 HR1.out.st HR1.out.tl (by intro e; have := HN1.out; rw [e] at this; simp at this; omega))
      go_wp2_with fail
      refine HF.out.mono ?_
      rintro e w2 ⟨p, rfl, hp, hb2⟩
      have hpg : p < 262144 := by
        obtain ⟨t, ht, e⟩ := cnt_pos.1 hp.1
        have := HR1.out.tl t ht
        omega
      have HFP := Lib.hid hp
      have HB2 := Lib.hid hb2
      have hz2 := hb2.size
      have HT2 := Lib.hid (HT1.out.below hb2)
      have HB02 : Hid (w2.heap[B]? = some (.cells (boxC most a1 n1 c1 a2 n2 c2) 27 (0, 0))) := Lib.hid ((hb2.block B hBl).trans HB0.out)
      have HBB2 : Hid (w2.heap[B + 1]? = some (.cells #[.int .i64 0, .slice none 0 0, .slice none 0 0] 27 (0, 0))) := Lib.hid ((hb2.block (B + 1) hBl1).trans HBB.out)
      have HP2 := Lib.hid (HP1.out.below hb2)
      have HW2 : Hid (Below w.heap.size w w2) := Lib.hid (HW.out.trans (hb2.mono HW.out.size))
      have hzz : w.heap.size ≤ w2.heap.size := HW2.out.size
      clear hp hb2 HF b0 h1 h1' b1 b2 f1 f2 q0 q1 q2 HT1 HP1 HB0 HBB hBl hBl1
      go_wp2
      go_loopw [4, 5] (fun v4 v5 w3 => ∃ (i m oc : Nat) (oa : Option Addr), i ≤ n1 ∧ m ≤ n1 ∧ v5 = .int .i64 i ∧ v4 = .slice oa m oc ∧ Hid (m = (off p (T1.take i)).length) ∧ Hid (NRow w2.heap.size w3 (.slice oa m oc) (off p (T1.take i))) ∧ Hid (Below w2.heap.size w2 w3)) (fun _ v5 _ => n1 - (intOf v5).toNat)
      case atStart => exact ⟨0, 0, 0, none, by omega, by omega, rfl, rfl, Lib.hid rfl, Lib.hid (World.ownsRow_nil _ _ _ _), Lib.hid (Below.refl _ _)⟩
      case round =>
        rename World => w3
        obtain ⟨i, m, oc, oa, hi, hml, rfl, rfl, HM, HO, HB3⟩ := hrel
        have hB3 : B < w2.heap.size := (Array.getElem?_eq_some_iff.1 HB02.out).1
        have HB0w : w3.heap[B]? = some (.cells (boxC most a1 n1 c1 a2 n2 c2) 27 (0, 0)) := (HB3.out.block B hB3).trans HB02.out
        have b1 : w3.cell? ⟨B, 1, none⟩ = some (.slice a1 n1 c1) := Lib.cell_of_heap HB0w 1
        have hz3 : w2.heap.size ≤ w3.heap.size := HB3.out.size
        by_cases hit : i < n1
        · have hit' : i < T1.length := by rw [← HN1.out]; exact hit
          obtain ⟨b, off', rfl, hbw, c0⟩ := (HT2.out.below HB3.out).at hit'
          have hot := off_take (p := p) hit'
          have hole := off_take_le T1 p (i + 1)
          obtain ⟨y, hy⟩ : ∃ y, y = T1[i] := ⟨_, rfl⟩
          have hy24 : y < 16777216 := by rw [hy]; exact HR1.out.tl _ (List.getElem_mem _)
          rw [← hy] at c0 hot
          rw [← HN1.out] at hole
          have HOT := Lib.hid hot
          have HPY := Lib.hid (rpage_any y w3 hy24)
          have hii : (i : Int) < (n1 : Int) := by omega
          clear hy hot
          by_cases he : y / 64 = p
          · have he1 : (((y / 64 : Nat) : Int) != (p : Int)) = false := by simp; omega
            have he2 : ((y : Int) / 64 != (p : Int)) = false := by simp; omega
            have he3 : (y / 64 != p) = false := by simp [he]
            have HM2 : Hid (m = (off p (T1.take (i + 1))).length) := Lib.hid (by rw [HOT.out, if_pos he, List.append_nil]; exact HM.out)
            have HO2 : Hid (NRow w2.heap.size w3 (.slice oa m oc) (off p (T1.take (i + 1)))) := Lib.hid (by rw [HOT.out, if_pos he, List.append_nil]; exact HO.out)
            clear he HM HO hole
            go_wp2_with fail
            refine HPY.out.mono ?_
            rintro e w4 ⟨rfl, rfl⟩
            go_wp2
            go_roundw
            case rel => exact ⟨i + 1, m, oc, oa, by omega, hml, by go_num, rfl, HM2, HO2, HB3⟩
            case measure => simp [intOf]; omega
          · have he1 : (((y / 64 : Nat) : Int) != (p : Int)) = true := by simp; omega
            have he2 : ((y : Int) / 64 != (p : Int)) = true := by simp; omega
            have he3 : (y / 64 != p) = true := by simp [he]
            obtain ⟨na, nc, w4, hr4, ho4, hb4⟩ := putN 22 HO.out y 3 (by rw [← HM.out]; omega) hz3
            rw [← HM.out] at hr4 ho4
            have HM2 : Hid (m + 1 = (off p (T1.take (i + 1))).length) := Lib.hid (by rw [HOT.out, if_neg he, List.length_append, HM.out]; rfl)
            have HO2 : Hid (NRow w2.heap.size w4 (.slice na (m + 1) nc) (off p (T1.take (i + 1)))) := Lib.hid (by rw [HOT.out, if_neg he]; exact ho4)
            have HB4 := Lib.hid (HB3.out.trans hb4)
            have hml2 : m + 1 ≤ n1 := by rw [HM2.out]; exact hole
            clear he ho4 hb4 HM HO hole
            go_wp2_with fail
            refine HPY.out.mono ?_
            rintro e w5 ⟨rfl, rfl⟩
            go_wp2_with (at_builtin; refine Lib.wpList_append_run _ rfl (.tmp 30) (.tmp 36) 22 22 rfl _ _ rfl rfl _ _ hr4 ?_)
            go_roundw
            case rel => exact ⟨i + 1, m + 1, nc, na, by omega, hml2, by go_num, rfl, HM2, HO2, HB4⟩
            case measure => simp [intOf]; omega
        · have hin : i = T1.length := by rw [← HN1.out]; omega
          have f1 := froz_of HB0w 1
          have hk4 : Kept (fun k => S k ∨ k = B ∨ k = B + 1) w3 (w3.setCell ⟨B, 1, none⟩ (.slice oa m oc)) := Kept.setCell _ _ (.inr (.inl rfl)) _
          have hB04 : (w3.setCell ⟨B, 1, none⟩ (.slice oa m oc)).heap[B]? = some (.cells (boxC most oa m oc a2 n2 c2) 27 (0, 0)) := by
            have := heap_setCell_same w3 B 1 _ 27 (.slice oa m oc) HB0w
            simpa [boxC] using this
          have hBB4 : (w3.setCell ⟨B, 1, none⟩ (.slice oa m oc)).heap[B + 1]? = some (.cells #[.int .i64 0, .slice none 0 0, .slice none 0 0] 27 (0, 0)) :=
            (Below.heap_setCell _ _ _ _ (by simp)).trans ((HB3.out.block (B + 1) (Array.getElem?_eq_some_iff.1 HBB2.out).1).trans HBB2.out)
          obtain ⟨W4, hW4⟩ : ∃ W4, W4 = w3.setCell ⟨B, 1, none⟩ (.slice oa m oc) := ⟨_, rfl⟩
          rw [← hW4] at hk4 hB04 hBB4
          have HW4 := Lib.hid hW4
          have hB2l : B + 1 < w2.heap.size := (Array.getElem?_eq_some_iff.1 HBB2.out).1
          have HTR : Hid (NumsS (fun k => S k ∨ k = B ∨ k = B + 1) W4 oa (off p T1)) := Lib.hid (by
            have ho := HO.out
            rw [hin, List.take_length] at ho
            exact (ho.nums.s (fun k e => by have := HSX.out k e; omega)).kept hk4)
          have HMR : Hid (m = (off p T1).length) := Lib.hid (by have := HM.out; rwa [hin, List.take_length] at this)
          have HPU := Lib.hid (rput_any c2 ((HP2.out.below HB3.out).kept hk4) HN2.out p (by omega) (fun k e => by have := HSX.out k e; have := hk4.size; omega) HR1.out.sp)
          have HWW : Hid (Below w.heap.size w W4) := Lib.hid ((HW2.out.trans (HB3.out.mono hzz)).trans (by
            rw [HW4.out]
            exact (Kept.setCell (fun k => k = B) w3 (b := B) (i := 1) rfl (.slice oa m oc)).toBelow (by omega) (fun k e => by have := HBE.out; omega)))
          have HB04 := Lib.hid hB04; have HBB4 := Lib.hid hBB4
          have d2 : w3.cell? ⟨B, 2, none⟩ = some (.slice a2 n2 c2) := Lib.cell_of_heap HB0w 2
          clear hk4 hB04 hBB4 hW4 hin HM HO
          go_wp2_with fail
          rw [← HW4.out]
          refine HPU.out.mono ?_
          rintro e w5 ⟨a5, c5, rfl, h5, hb5⟩
          have hB05 : w5.heap[B]? = some (.cells (boxC most oa m oc a2 n2 c2) 27 (0, 0)) := (hb5.block B (Array.getElem?_eq_some_iff.1 HB04.out).1).trans HB04.out
          have hBB5 := (hb5.block (B + 1) (Array.getElem?_eq_some_iff.1 HBB4.out).1).trans HBB4.out
          have f5 := froz_of hB05 2
          have d5 : w5.cell? ⟨B, 2, none⟩ = some (.slice a2 n2 c2) := Lib.cell_of_heap hB05 2
          obtain ⟨n5, hn5⟩ : ∃ n5, n5 = (ins p P1).length := ⟨_, rfl⟩
          rw [← hn5]
          have HN5 := Lib.hid hn5
          have hk6 : Kept (fun k => S k ∨ k = B ∨ k = B + 1) w5 (w5.setCell ⟨B, 2, none⟩ (.slice a5 n5 c5)) := Kept.setCell _ _ (.inr (.inl rfl)) _
          have HB06 : Hid ((w5.setCell ⟨B, 2, none⟩ (.slice a5 n5 c5)).heap[B]? = some (.cells (boxC most oa m oc a5 n5 c5) 27 (0, 0))) := Lib.hid (by
            have := heap_setCell_same w5 B 2 _ 27 (.slice a5 n5 c5) hB05
            simpa [boxC] using this)
          have HBB6 : Hid ((w5.setCell ⟨B, 2, none⟩ (.slice a5 n5 c5)).heap[B + 1]? = some (.cells #[.int .i64 0, .slice none 0 0, .slice none 0 0] 27 (0, 0))) := Lib.hid ((Below.heap_setCell _ _ _ _ (by simp)).trans hBB5)
          have HT6 := Lib.hid ((HTR.out.below hb5).kept hk6)
          have HP6 := Lib.hid (h5.kept hk6)
          have HR6 := Lib.hid (HR1.out.step HFP.out)
          have HD6 : Hid (∀ T' P', Deg most (off p T1) (ins p P1) T' P' → Deg most T P T' P') := Lib.hid fun T' P' hd => HD1.out _ _ (.step (by rw [← HN1.out]; exact hlt) HFP.out hd)
          have HW6 : Hid (Below w.heap.size w (w5.setCell ⟨B, 2, none⟩ (.slice a5 n5 c5))) := Lib.hid ((HWW.out.trans (hb5.mono HWW.out.size)).trans
            ((Kept.setCell (fun k => k = B) w5 (b := B) (i := 2) rfl (.slice a5 n5 c5)).toBelow (by have := hb5.size; have := HWW.out.size; omega) (fun k e => by have := HBE.out; omega)))
          have hm1 : m < n1 := by
            have h1 := off_length p T1
            have h2 := cnt_pos.2 (cnt_pos.1 HFP.out.1)
            rw [← HMR.out, ← HN1.out] at h1
            omega
          have hn52 : n5 ≤ 262144 := by rw [HN5.out]; exact raw_few HR6.out
          have HME : Hid (lenS (w5.setCell ⟨B, 2, none⟩ (.slice a5 n5 c5)) B < n1) := Lib.hid (by
            have e : (w5.setCell ⟨B, 2, none⟩ (.slice a5 n5 c5)).cell? ⟨B, 1, none⟩ = some (.slice oa m oc) := Lib.cell_of_heap HB06.out 1
            unfold lenS; rw [e]; exact hm1)
          clear hb5 hB05 hBB5 hk6 h5 hn5 HPU
          go_wp2
          go_roundw
          case rel => exact ⟨off p T1, ins p P1, oa, m, oc, a5, n5, c5, HB06, HBB6, by omega, hn52, HMR, HN5, HT6, HP6, HR6, HD6, HW6⟩
          case measure => exact Nat.lt_of_lt_of_le HME.out (Nat.le_of_eq HLN.out.symm)
    · have h1 : decide ((most : Int) < n1) = false := decide_eq_false (by omega)
      have h1' : decide (most < n1) = false := decide_eq_false (by omega)
      have hb1c : wr.cell? ⟨B + 1, 0, none⟩ = some (.int .i64 0) := Lib.cell_of_heap HBB.out 0
      have hb2c : wr.cell? ⟨B + 1, 1, none⟩ = some (.slice none 0 0) := Lib.cell_of_heap HBB.out 1
      have hb3c : wr.cell? ⟨B + 1, 2, none⟩ = some (.slice none 0 0) := Lib.cell_of_heap HBB.out 2
      have h3 := three HBB.out (.int .i64 (most : Int)) (.slice a1 n1 c1) (.slice a2 n2 c2)
      have hk3 : Kept (fun k => S k ∨ k = B ∨ k = B + 1) wr (((wr.setCell ⟨B + 1, 0, none⟩ (.int .i64 (most : Int))).setCell ⟨B + 1, 1, none⟩ (.slice a1 n1 c1)).setCell ⟨B + 1, 2, none⟩ (.slice a2 n2 c2)) := three_kept _ (.inr (.inr rfl)) _ _ _
      have hb3' : Below w.heap.size w (((wr.setCell ⟨B + 1, 0, none⟩ (.int .i64 (most : Int))).setCell ⟨B + 1, 1, none⟩ (.slice a1 n1 c1)).setCell ⟨B + 1, 2, none⟩ (.slice a2 n2 c2)) := HW.out.trans ((three_kept (fun k => k = B + 1) (w := wr) rfl (.int .i64 (most : Int)) (.slice a1 n1 c1) (.slice a2 n2 c2)).toBelow HW.out.size (fun k e => by have := HBE.out; omega))
      have hE : RDeg S most T P w (.returned (rv most a1 n1 c1 a2 n2 c2)) (((wr.setCell ⟨B + 1, 0, none⟩ (.int .i64 (most : Int))).setCell ⟨B + 1, 1, none⟩ (.slice a1 n1 c1)).setCell ⟨B + 1, 2, none⟩ (.slice a2 n2 c2)) :=
        ⟨T1, P1, _, rfl, HD1.out _ _ (.done (by rw [← HN1.out]; omega)), ⟨a1, n1, c1, a2, n2, c2, rfl, HN1.out, HN2.out, (HT1.out.kept hk3).mono (fun _ e => .inl e), (HP1.out.kept hk3).mono (fun _ e => .inl e)⟩, hb3'⟩
      have HE := Lib.hid hE
      have H3 := Lib.hid h3
      clear h3 hk3 hb3' hE
      go_wp2
      exact bodyPost_ret (v := rv most a1 n1 c1 a2 n2 c2) (by
        have e0 := Lib.cell_of_heap H3.out 0
        have e1 := Lib.cell_of_heap H3.out 1
        have e2 := Lib.cell_of_heap H3.out 2
        simp [results, Tryd.results32, go_sem, e0, e1, e2, rv]) rfl HE.out
end Go.Proofs.YtpjpkpbfbbpmdaaDoor.Ts
