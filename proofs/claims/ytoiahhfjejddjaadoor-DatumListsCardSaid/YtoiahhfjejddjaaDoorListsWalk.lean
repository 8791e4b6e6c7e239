/- The walk of DatumLists: for every list of data that came in it answers true; other memory stands. -/
import Derived.Test.YtoiahhfjejddjaaDoorR
import Derived.Test.YtoiahhfjejddjaaDoorQ
import Derived.Deep.RegionHeld3
set_option maxRecDepth 100000
namespace Go.Proofs.YtoiahhfjejddjaaDoor
open Go Go.RowKit

/-- Of what Bytes and Print say of one datum. -/
theorem bytes_one (k n : Int) (s : ByteArray) (xs : List It) : ∃ (b : List UInt8) (e : Int), (∀ (a : Option Addr) (lc : Nat) (w : World), Sl w a xs → Calls Tryd.prog 17 #[.agg #[.int .i64 k, .int .i64 n, .string s, .slice a xs.length lc]] w fun r w' => r = .returned (.tuple #[.string ⟨b.toArray⟩, .int .i64 e]) ∧ Below w.heap.size w w') ∧
    (dOk k n s xs = true → b = datB k n s xs ∧ e = 0) ∧ (dOk k n s xs = false → b = [] ∧ e = 11) ∧ b.length ≤ 1000000 := by
  cases h : dOk k n s xs
  · exact ⟨[], 11, fun a lc w hS => bytes_no k n s a xs lc w hS h, by simp, by simp, by simp⟩
  · exact ⟨datB k n s xs, 0, fun a lc w hS => bytes_ok k n s a xs lc w hS h, by simp, by simp, datB_length k n s xs h⟩

theorem datT_length (k n : Int) (s : ByteArray) (xs : List It) (hn : I64 n) (hns : AllI xs) (h : dOk k n s xs = true) : (datT k n s xs).length ≤ 1000000 := by
  unfold datT
  split
  · rename_i hk
    rw [dOk, if_pos hk] at h
    obtain ⟨_, _, hlen, hall⟩ := listOk_parts h
    have := commaT_length xs (fun x hx => ⟨hall x hx, hns x hx⟩)
    simp only [List.length_cons, List.length_append, List.length_nil]
    omega
  · rename_i hk
    obtain ⟨rfl, hok⟩ := items_none h hk
    have := itemT_length k n s hn (item_kind (x := ⟨k, n, s, none, 0, 0⟩) hok).2
    omega

theorem print_one (k n : Int) (s : ByteArray) (xs : List It) (hn : I64 n) (hns : AllI xs) : ∃ (b : List UInt8) (e : Int), (∀ (a : Option Addr) (lc : Nat) (w : World), Laid w → Sl w a xs → Calls Tryd.prog 19 #[.agg #[.int .i64 k, .int .i64 n, .string s, .slice a xs.length lc]] w fun r w' => r = .returned (.tuple #[.string ⟨b.toArray⟩, .int .i64 e]) ∧ Below w.heap.size w w') ∧
    (dOk k n s xs = true → b = datT k n s xs ∧ e = 0) ∧ (dOk k n s xs = false → b = [] ∧ e = 11) ∧ b.length ≤ 1000000 := by
  cases h : dOk k n s xs
  · exact ⟨[], 11, fun a lc w _ hS => print_no k n s a xs lc w hS h, by simp, by simp, by simp⟩
  · exact ⟨datT k n s xs, 0, fun a lc w hL hS => print_ok k n s a xs lc w hL hS h hn hns, by simp, by simp, datT_length k n s xs hn hns h⟩

theorem item_case (x : It) (ys : List It) (h : ys.length = x.ll) :
    (x.ok = true ∧ dOk x.k x.n x.s ys = true ∧ x.k ≠ 3 ∧ datB x.k x.n x.s ys = itemB x.k x.n x.s ∧ datT x.k x.n x.s ys = itemT x.k x.n x.s) ∨ (x.ok = false ∧ dOk x.k x.n x.s ys = false) ∨ (x.ok = false ∧ dOk x.k x.n x.s ys = true ∧ x.k = 3) := by
  by_cases h3 : x.k = 3
  · have hno : x.ok = false := by
      refine itemOk_not ?_
      rw [h3]
      omega
    cases hd : dOk x.k x.n x.s ys
    · exact .inr (.inl ⟨hno, rfl⟩)
    · exact .inr (.inr ⟨hno, rfl, h3⟩)
  · have hd : dOk x.k x.n x.s ys = x.ok := by rw [dOk, if_neg h3, h]; rfl
    rw [hd]
    cases hx : x.ok
    · exact .inr (.inl ⟨rfl, rfl⟩)
    · exact .inl ⟨rfl, rfl, h3, by rw [datB, if_neg h3], by rw [datT, if_neg h3]⟩
theorem not_ok {x : It} {xs : List It} (hm : x ∈ xs) (h : x.ok = false) : dOk 3 0 ⟨#[]⟩ xs = false := by
  cases hd : dOk 3 0 ⟨#[]⟩ xs
  · rfl
  · rw [dOk, if_pos rfl] at hd
    obtain ⟨_, _, _, hall⟩ := listOk_parts hd
    have := hall x hm
    rw [h] at this
    cases this
theorem all_ok {xs : List It} (hl : xs.length ≤ 8) (h : ∀ x ∈ xs, x.ok = true) : dOk 3 0 ⟨#[]⟩ xs = true := by
  rw [dOk, if_pos rfl, listOk]
  simp only [Bool.and_eq_true, decide_eq_true_eq, List.all_eq_true]
  exact ⟨⟨trivial, by simp, by omega⟩, h⟩

/-- The four cells of an item. -/
def Four (w : World) (b o : Nat) (x : It) : Prop := w.cell? ⟨b, o, none⟩ = some (.int .i64 x.k) ∧ w.cell? ⟨b, o + 1, none⟩ = some (.int .i64 x.n) ∧ w.cell? ⟨b, o + 2, none⟩ = some (.string x.s) ∧ w.cell? ⟨b, o + 3, none⟩ = some (.slice x.a x.ll x.lc)
theorem Four.below {w w' : World} {b o : Nat} {x : It} {B : Nat} (h : Four w b o x) (hb : Below B w w') (hB : b < B) : Four w' b o x :=
  ⟨(hb.cell (p := ⟨b, _, none⟩) hB).trans h.1, (hb.cell (p := ⟨b, _, none⟩) hB).trans h.2.1, (hb.cell (p := ⟨b, _, none⟩) hB).trans h.2.2.1, (hb.cell (p := ⟨b, _, none⟩) hB).trans h.2.2.2⟩

theorem toList_mk (l : List UInt8) : (⟨l.toArray⟩ : ByteArray).toList = l := by rw [ByteArray.toList_eq]

set_option maxHeartbeats 3200000 in
theorem lists_law (a : Option Addr) (xs : List It) (lc : Nat) (w : World) (hL : Laid w) (hS : Sl w a xs) (hD : Deep w xs) :
    Calls Tryd.prog 9 #[.slice a xs.length lc] w fun e w' => e = .returned (.bool true) ∧ Below w.heap.size w w' := by
  obtain ⟨b, e, h1, h2, h3, h4⟩ := bytes_one 3 0 ⟨#[]⟩ xs
  obtain ⟨t, f, h5, h6, h7, h8⟩ := print_one 3 0 ⟨#[]⟩ xs ⟨by decide, by decide⟩ hD.1
  have hsix := hL.six
  have HL := Lib.hid hL; have HS := Lib.hid hS; have HD := Lib.hid hD
  have H1 := Lib.hid h1; have H2 := Lib.hid h2; have H3 := Lib.hid h3; have H5 := Lib.hid h5; have H6 := Lib.hid h6; have H7 := Lib.hid h7
  clear hL hS hD h1 h2 h3 h5 h6 h7
  obtain ⟨ll, hll⟩ : ∃ ll, ll = xs.length := ⟨_, rfl⟩
  rw [← hll] at H1 H5 ⊢
  have HLL := Lib.hid hll; clear hll
  go_enter Tryd.func9, Tryd.ntmps9
  go_wp2_with fail
  refine (H1.out a lc _ (HS.out.below ((Below.refl _ _).alloc (Nat.le_refl _) _) (Nat.le_refl _))).mono ?_
  rintro r w1 ⟨rfl, hb1⟩
  have HB1 := Lib.hid hb1; clear hb1
  obtain ⟨c0, c1, c2, c3⟩ := box_cells (by simpa using HB1.out)
  go_wp2_with fail
  refine (H5.out a lc _ (HL.out.below (below_al _ HB1.out) hsix) (HS.out.below (below_al _ HB1.out) (Nat.le_refl _))).mono ?_
  rintro r w2 ⟨rfl, hb2⟩
  have HB2 := Lib.hid (below_then HB1.out (Nat.le_refl _) hb2); clear hb2 c0 c1 c2 c3
  go_wp2
  go_loopw [8, 9, 10, 11, 12, 13, 14, 15] (fun vb vp vf vi _ _ _ _ wr => ∃ (j : Nat) (lb lp : List UInt8) (fine : Bool), vb = .string ⟨lb.toArray⟩ ∧ vp = .string ⟨lp.toArray⟩ ∧ vf = .bool fine ∧ vi = .int .i64 j ∧ j ≤ ll ∧ Hid (fine = true → ll ≤ 8 ∧ lb = itemsB (xs.take j) ∧ lp = commaT (xs.take j) ∧ ∀ x ∈ xs.take j, x.ok = true) ∧ Hid (fine = false → dOk 3 0 ⟨#[]⟩ xs = false) ∧ Hid (Below (w.heap.size + 1) (w.alloc (.cells #[.int .i64 3, .int .i64 0, .string ⟨#[]⟩, .slice a ll lc] 24)) wr)) (fun _ _ _ i _ _ _ _ _ => ll - (intOf i).toNat)
  case atStart =>
    refine ⟨0, [], [], decide ((ll : Int) ≤ 8), rfl, rfl, rfl, rfl, by omega, Lib.hid ?_, Lib.hid ?_, Lib.hid (by simpa using HB2.out)⟩
    · intro h
      exact ⟨by have := of_decide_eq_true h; omega, by simp [itemsB], by simp [commaT], by simp⟩
    · intro h
      have h8 := of_decide_eq_false h
      cases hd : dOk 3 0 ⟨#[]⟩ xs
      · rfl
      · rw [dOk, if_pos rfl] at hd
        obtain ⟨_, _, hlen, _⟩ := listOk_parts hd
        have := HLL.out
        omega
  case round =>
    obtain ⟨j, lb, lp, fine, rfl, rfl, rfl, rfl, hj, HF, HN, HB⟩ := hrel
    have HBW := Lib.hid (below_al _ (by simpa using HB.out))
    have hz := HB.out.size
    simp only [World.size_alloc] at hz
    cases fine
    · have hno := HN.out rfl
      obtain ⟨rfl, rfl⟩ := H3.out hno
      obtain ⟨rfl, rfl⟩ := H7.out hno
      have HC : Hid (∀ w', Sl w' a xs → Calls Tryd.prog 15 #[.agg #[.int .i64 3, .int .i64 0, .string ⟨#[]⟩, .slice a ll lc]] w' fun r w'' => r = .returned (.int .i64 11) ∧ Below w'.heap.size w' w'') := Lib.hid (by
        intro w' hS'
        have := rcheck_no 3 0 ⟨#[]⟩ a xs lc w' hS' hno
        rw [← HLL.out] at this
        exact this)
      obtain ⟨c0, c1, c2, c3⟩ := box_cells HB.out
      go_wp2_with fail
      all_goals
        refine (HC.out _ (HS.out.below HBW.out (Nat.le_refl _))).mono ?_
        rintro r w5 ⟨rfl, hb5⟩
        have HB5 := Lib.hid (below_then HB.out (by simp) hb5); clear hb5
        obtain ⟨k0, k1, k2, k3⟩ := box_cells HB5.out
        go_wp2_with fail
        refine (HC.out _ (HS.out.below (below_al _ (by simpa using HB5.out)) (Nat.le_refl _))).mono ?_
        rintro r w6 ⟨rfl, hb6⟩
        have HB6 := Lib.hid (below_then HB5.out (by simp) hb6); clear hb6
        go_wp2_with fail
        refine (awake_any _ (HL.out.below (below_al _ (by simpa using HB6.out)) hsix)).mono ?_
        rintro r w7 ⟨rfl, hb7⟩
        go_wp2
        go_ret
        exact ⟨rfl, below_then (below_al _ (by simpa using HB6.out)) (Nat.le_refl _) hb7⟩
    · by_cases hlt : j < ll
      · have hlt' : j < xs.length := by rw [← HLL.out]; exact hlt
        obtain ⟨h8, hlb, hlp, hall⟩ := HF.out rfl
        have hlb' : lb.length ≤ 600 := by
          have := itemsB_length (xs.take j) hall
          have := List.length_take_le j xs
          rw [hlb]
          omega
        have hlp' : lp.length ≤ 1000 := by
          have := commaT_length (xs.take j) (fun x hx => ⟨hall x hx, HD.out.1 x (List.mem_of_mem_take hx)⟩)
          have := List.length_take_le j xs
          rw [hlp]
          omega
        have HLB := Lib.hid hlb; have HLP := Lib.hid hlp; have HALL := Lib.hid hall; clear hlb hlp hall
        obtain ⟨bb, off, rfl, hbw, hc⟩ := (HS.out.below HBW.out (Nat.le_refl _)).at hlt'
        have HI := Lib.hid (show Four wr bb (off + j * 4) (xs[j]'hlt') from hc j hlt')
        clear hc
        obtain ⟨x, hx⟩ : ∃ x, x = xs[j]'hlt' := ⟨_, rfl⟩
        have hmem : x ∈ xs := by rw [hx]; exact List.getElem_mem _
        rw [← hx] at HI
        have HX := Lib.hid hx; clear hx
        obtain ⟨ys, hyl, hSy, hAy⟩ := (HD.out.2 x hmem).below HBW.out (Nat.le_refl _)
        have HSY := Lib.hid hSy
        have hxn := HD.out.1 x hmem
        obtain ⟨xb, g, q1, q2, q3, q4⟩ := bytes_one x.k x.n x.s ys
        obtain ⟨yb, h, q5, q6, q7, q8⟩ := print_one x.k x.n x.s ys hxn hAy
        rw [hyl] at q1 q5
        have Q1 := Lib.hid q1; have Q2 := Lib.hid q2; have Q3 := Lib.hid q3; have Q5 := Lib.hid q5; have Q6 := Lib.hid q6; have Q7 := Lib.hid q7
        have HXN := Lib.hid hxn; have HYL := Lib.hid hyl
        clear q1 q2 q3 q5 q6 q7 hSy hAy hxn
        obtain ⟨e0, e1, e2, e3⟩ := HI.out
        go_wp2_with fail
        refine (Q1.out _ _ _ HSY.out).mono ?_
        rintro r w3 ⟨rfl, hb3⟩
        have hz3 := hb3.size
        have HI3 := Lib.hid (HI.out.below hb3 hbw)
        have HS3 := Lib.hid (HSY.out.below hb3 (Nat.le_refl _))
        have HB3 := Lib.hid (below_then HB.out (by simp) hb3); clear hb3 e0 e1 e2 e3
        obtain ⟨e0, e1, e2, e3⟩ := HI3.out
        go_wp2_with fail
        refine (Q5.out _ _ _ (HL.out.below (below_al _ (by simpa using HB3.out)) hsix) HS3.out).mono ?_
        rintro r w4 ⟨rfl, hb4⟩
        have hz4 := hb4.size
        have HI4 := Lib.hid (HI3.out.below hb4 (by omega))
        have HB4 := Lib.hid (below_then HB3.out (by simp) hb4); clear hb4 e0 e1 e2 e3
        obtain ⟨e0, e1, e2, e3⟩ := HI4.out
        have hq1 : ¬ 9223372036854775807 < lp.length + 1 := by omega
        have hq2 : ¬ 9223372036854775807 < lb.length + xb.length := by omega
        have hq3 : ¬ 9223372036854775807 < lp.length + 1 + yb.length := by omega
        have hq4 : ¬ 9223372036854775807 < lp.length + yb.length := by omega
        rcases item_case x ys hyl with ⟨a1, a2, a3, a4, a5⟩ | ⟨a1, a2⟩ | ⟨a1, a2, a3⟩
        · obtain ⟨hxb, rfl⟩ := Q2.out a2
          obtain ⟨hyb, rfl⟩ := Q6.out a2
          have hk : (x.k != 3) = true := by simpa using a3
          have HXB := Lib.hid (show xb = itemB x.k x.n x.s by rw [hxb, a4])
          have HYB := Lib.hid (show yb = itemT x.k x.n x.s by rw [hyb, a5])
          have HA1 := Lib.hid a1
          clear a1 a2 a3 a4 a5 hxb hyb
          have HT := Lib.hid (show xs.take (j + 1) = xs.take j ++ [x] by rw [List.take_succ_eq_append_getElem hlt', ← HX.out])
          by_cases hj0 : 0 < j
          · go_wp2_with fail
            go_roundw
            case rel =>
              refine ⟨j + 1, lb ++ xb, lp ++ [44] ++ yb, true, by rw [← bytes_app], by rw [← bytes_app, ← bytes_app], rfl, by go_num, by omega, Lib.hid ?_, Lib.hid (by simp), HB4⟩
              intro _
              refine ⟨h8, ?_, ?_, ?_⟩
              · rw [HT.out, itemsB_snoc, HLB.out, HXB.out]
              · rw [HT.out, commaT_snoc, if_neg (by intro h; have := congrArg List.length h; rw [List.length_take, List.length_nil] at this; omega), HLP.out, HYB.out]
              · intro z hz'
                rw [HT.out, List.mem_append, List.mem_singleton] at hz'
                rcases hz' with hz' | rfl
                · exact HALL.out z hz'
                · exact HA1.out
            case measure => simp [intOf]; omega
          · go_wp2_with fail
            go_roundw
            case rel =>
              refine ⟨j + 1, lb ++ xb, lp ++ yb, true, by rw [← bytes_app], by rw [← bytes_app], rfl, by go_num, by omega, Lib.hid ?_, Lib.hid (by simp), HB4⟩
              intro _
              refine ⟨h8, ?_, ?_, ?_⟩
              · rw [HT.out, itemsB_snoc, HLB.out, HXB.out]
              · obtain rfl : j = 0 := by omega
                rw [HT.out, commaT_snoc, if_pos (List.take_zero), HLP.out, HYB.out]
                simp [commaT]
              · intro z hz'
                rw [HT.out, List.mem_append, List.mem_singleton] at hz'
                rcases hz' with hz' | rfl
                · exact HALL.out z hz'
                · exact HA1.out
            case measure => simp [intOf]; omega
        · obtain ⟨hxb, rfl⟩ := Q3.out a2
          obtain ⟨hyb, rfl⟩ := Q7.out a2
          have HNO := Lib.hid (not_ok hmem a1)
          clear a1 a2 hxb hyb
          by_cases hj0 : 0 < j
          · go_wp2_with fail
            go_roundw
            case rel => exact ⟨j + 1, lb ++ xb, lp ++ [44] ++ yb, false, by rw [← bytes_app], by rw [← bytes_app, ← bytes_app], rfl, by go_num, by omega, Lib.hid (by simp), Lib.hid (fun _ => HNO.out), HB4⟩
            case measure => simp [intOf]; omega
          · go_wp2_with fail
            go_roundw
            case rel => exact ⟨j + 1, lb ++ xb, lp ++ yb, false, by rw [← bytes_app], by rw [← bytes_app], rfl, by go_num, by omega, Lib.hid (by simp), Lib.hid (fun _ => HNO.out), HB4⟩
            case measure => simp [intOf]; omega
        · obtain ⟨hxb, rfl⟩ := Q2.out a2
          obtain ⟨hyb, rfl⟩ := Q6.out a2
          have HNO := Lib.hid (not_ok hmem a1)
          have hk : (x.k != 3) = false := by simpa using a3
          clear a1 a2 a3 hxb hyb
          by_cases hj0 : 0 < j
          · go_wp2_with fail
            go_roundw
            case rel => exact ⟨j + 1, lb ++ xb, lp ++ [44] ++ yb, false, by rw [← bytes_app], by rw [← bytes_app, ← bytes_app], rfl, by go_num, by omega, Lib.hid (by simp), Lib.hid (fun _ => HNO.out), HB4⟩
            case measure => simp [intOf]; omega
          · go_wp2_with fail
            go_roundw
            case rel => exact ⟨j + 1, lb ++ xb, lp ++ yb, false, by rw [← bytes_app], by rw [← bytes_app], rfl, by go_num, by omega, Lib.hid (by simp), Lib.hid (fun _ => HNO.out), HB4⟩
            case measure => simp [intOf]; omega
      · obtain ⟨h8, hlb, hlp, hall⟩ := HF.out rfl
        have htk : xs.take j = xs := List.take_of_length_le (by have := HLL.out; omega)
        rw [htk] at hlb hlp hall
        have hok := all_ok (by rw [← HLL.out]; exact h8) hall
        obtain ⟨hb, rfl⟩ := H2.out hok
        obtain ⟨ht, rfl⟩ := H6.out hok
        have hlb' : lb.length ≤ 600 := by
          have := itemsB_length xs hall
          have := HLL.out
          rw [hlb]
          omega
        have hlp' : lp.length ≤ 1000 := by
          have := commaT_length xs (fun x hx => ⟨hall x hx, HD.out.1 x hx⟩)
          have := HLL.out
          rw [hlp]
          omega
        have hb256 : ((byt ll).toNat : Int) = (ll : Int) := by rw [byt_nat]; omega
        have hb2 : b = [3, byt ll] ++ lb := by rw [hb, hlb, datB, if_pos rfl, HLL.out]; rfl
        have ht2 : t = [91] ++ lp ++ [93] := by rw [ht, hlp, datT, if_pos rfl]; simp
        have hq1 : ¬ 9223372036854775807 < lp.length + 1 := by omega
        have hq2 : ¬ 9223372036854775807 < 2 + lb.length := by omega
        have hq3 : ¬ 9223372036854775807 < 1 + lp.length := by omega
        have hq4 : ¬ 9223372036854775807 < 1 + lp.length + 1 := by omega
        have hcv : (convert 42 9 (.slice (some ⟨wr.heap.size, 0, none⟩) 2 2)).run Tryd.prog (wr.alloc (.cells #[.int .u8 3, .int .u8 (ll : Int)] 5)) = .ok (.string ⟨[3, byt ll].toArray⟩) (wr.alloc (.cells #[.int .u8 3, .int .u8 (ll : Int)] 5)) := by
          refine conv_row wr.heap.size _ wr.heap.size 2 [3, byt ll] ?_
          have := World.ownsRow_lit (base := wr.heap.size) (e := 5) (size := 1) wr #[.int .u8 3, .int .u8 (ll : Int)] 2 (by simp) (by decide) (by rfl)
          show World.ownsRow _ _ 5 1 _ 2 (Lib.byteCells [3, byt ll])
          rw [twoBytes, hb256]
          exact this
        have hbe : b = (({ data := #[3, byt ll] } : ByteArray) ++ { data := lb.toArray }).toList := by
          rw [show ({ data := #[3, byt ll] } : ByteArray) = ⟨[3, byt ll].toArray⟩ from rfl, bytes_app, toList_mk, hb2]
        have hte : t = (({ data := #[91] } : ByteArray) ++ { data := lp.toArray } ++ { data := #[93] }).toList := by
          rw [show ({ data := #[91] } : ByteArray) = ⟨[91].toArray⟩ from rfl, show ({ data := #[93] } : ByteArray) = ⟨[93].toArray⟩ from rfl, bytes_app, bytes_app, toList_mk, ht2]
        clear hb ht hlb hlp hall htk hb2 ht2
        go_wp2_with fail
        refine (awake_any _ (HL.out.below (HBW.out.alloc (by omega) _) hsix)).mono ?_
        rintro r w7 ⟨rfl, hb7⟩
        go_wp2
        go_ret
        exact ⟨rfl, below_then (HBW.out.alloc (by omega) _) (Nat.le_refl _) hb7⟩
end Go.Proofs.YtoiahhfjejddjaaDoor
