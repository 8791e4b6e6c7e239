/- The walk of the reference's Parse at a list's text. -/
import Derived.Test.YtoiahhfjejddjaaDoorRM
import Derived.Test.YtoiahhfjejddjaaDoorQ
set_option maxRecDepth 100000
namespace Go.Proofs.YtoiahhfjejddjaaDoor
open Go Go.RowKit

theorem extract_cut (s : ByteArray) (i j : Nat) : (s.extract i j).data.toList = (s.data.toList.drop i).take (j - i) := by
  rw [Lib.extract_data]
theorem extract_size_le (s : ByteArray) (i j : Nat) : (s.extract i j).size ≤ s.size := by
  have e1 : (s.extract i j).size = (s.extract i j).data.toList.length := rfl
  have e2 : s.data.toList.length = s.size := rfl
  rw [e1, extract_cut, List.length_take, List.length_drop, e2]
  omega

/-- What stands at the loop's head: the result's box, the datum's box, the list that grows. -/
structure RP (w : World) (av : Option Addr) (n cv : Nat) (acc : List It) (wr : World) : Prop where
  bel : Below (w.heap.size + 1) (w.alloc (.cells #[.int .i64 0, .int .i64 0, .string ⟨#[]⟩, .slice none 0 0] 24)) wr
  dblk : wr.heap[w.heap.size + 1]? = some (.cells #[.int .i64 3, .int .i64 0, .string ⟨#[]⟩, .slice av n cv] 24 (0, 0))
  row : wr.ownsRow (w.heap.size + 2) 24 4 (.slice av n cv) n (itVals acc)
  len : acc.length = n
  ok : ∀ x ∈ acc, x.ok = true ∧ I64 x.n ∧ x.ll = 0
theorem RP.lt {w : World} {av : Option Addr} {n cv : Nat} {acc : List It} {wr : World} (h : RP w av n cv acc wr) : w.heap.size + 1 < wr.heap.size := (Array.getElem?_eq_some_iff.1 h.dblk).1
theorem RP.below {w : World} {av : Option Addr} {n cv : Nat} {acc : List It} {wr w1 : World} (h : RP w av n cv acc wr) (hb : Below wr.heap.size wr w1) : RP w av n cv acc w1 :=
  ⟨h.bel.trans (hb.mono (by have := h.lt; omega)), (hb.block _ h.lt).trans h.dblk, ownsRow_below h.row hb, h.len, h.ok⟩
theorem RP.start (w : World) : RP w none 0 0 [] ((w.alloc (.cells #[.int .i64 0, .int .i64 0, .string ⟨#[]⟩, .slice none 0 0] 24)).alloc (.cells #[.int .i64 3, .int .i64 0, .string ⟨#[]⟩, .slice none 0 0] 24)) := by
  refine ⟨(Below.refl _ _).alloc (by simp) _, ?_, World.ownsRow_nil _ _ _ _, rfl, fun x hx => by simp at hx⟩
  have := heap_alloc_new (w.alloc (.cells #[.int .i64 0, .int .i64 0, .string ⟨#[]⟩, .slice none 0 0] 24)) (.cells #[.int .i64 3, .int .i64 0, .string ⟨#[]⟩, .slice none 0 0] 24)
  rwa [World.size_alloc] at this
theorem RP.fre {w : World} {av : Option Addr} {n cv : Nat} {acc : List It} {wr : World} (h : RP w av n cv acc wr) : Fre acc := fun x hx => ⟨(h.ok x hx).2.1, (h.ok x hx).2.2⟩
theorem RP.dok {w : World} {av : Option Addr} {n cv : Nat} {acc : List It} {wr : World} (h : RP w av n cv acc wr) (h8 : n ≤ 8) : dOk 3 0 ⟨#[]⟩ acc = true := by
  rw [dOk, if_pos rfl]
  simp only [listOk, Bool.and_eq_true, decide_eq_true_eq, List.all_eq_true]
  exact ⟨⟨trivial, by rw [ByteArray.toList_eq]; rfl, by have := h.len; omega⟩, fun x hx => (h.ok x hx).1⟩
theorem RP.slg {w : World} {av : Option Addr} {n cv : Nat} {acc : List It} {wr : World} (h : RP w av n cv acc wr) : SlG (w.heap.size + 2) wr av acc := by
  have hr := h.row
  have hl := h.len
  subst hl
  rcases hr.2 with ⟨_, h0⟩ | ⟨g, cap, cur, hv, _⟩
  · exact .inl (List.eq_nil_of_length_eq_zero h0)
  · injection hv with hv _ _
    subst hv
    exact Sl_of_row hr (Nat.le_refl _)
theorem dblk_set {w2 : World} {b : Nat} {v v' : Value} (h : w2.heap[b]? = some (.cells #[.int .i64 3, .int .i64 0, .string ⟨#[]⟩, v] 24 (0, 0))) : (w2.setCell ⟨b, 3, none⟩ v').heap[b]? = some (.cells #[.int .i64 3, .int .i64 0, .string ⟨#[]⟩, v'] 24 (0, 0)) := by
  simp only [World.setCell, Array.getElem?_modify, if_true, h, Option.map_some]
  rfl
/-- What is known of an item that was read. -/
theorem item_of {k n : Int} {t : ByteArray} (hok : itemOk k n t 0 = true) (hn : I64 n) : ((⟨k, n, t, none, 0, 0⟩ : It)).ok = true ∧ I64 ((⟨k, n, t, none, 0, 0⟩ : It)).n ∧ ((⟨k, n, t, none, 0, 0⟩ : It)).ll = 0 := ⟨hok, hn, rfl⟩

/-- The scan's state, the empty list's text beside it. -/
def ScanQ (s : List UInt8) (acc : List It) (frm i : Nat) : Prop := (2 < s.length ∧ ScanP s acc frm i) ∨ (s.length = 2 ∧ acc = [])
theorem ScanQ.done {s : List UInt8} {acc : List It} {frm i : Nat} (h : ScanQ s acc frm i) (hi : s.length ≤ i ∨ s.length ≤ 2) : ∀ ys, s = 91 :: (commaT ys ++ [93]) → Good ys → ys.length ≤ 8 → ys.map cont = acc.map cont := by
  rcases h with ⟨h1, h2⟩ | ⟨h1, rfl⟩
  · exact h2.done (by omega)
  · exact scan_two (by omega)

set_option maxHeartbeats 3200000 in
theorem rparse_list (s : ByteArray) (w : World) (hL : Hid (Laid w)) (hs : s.size ≤ 140737488355000) (h2 : 2 ≤ s.size) (hb91 : ((s[0].toNat : Int) != 91) = false) (h91 : Hid (∃ s', s.data.toList = 91 :: s')) : Calls Tryd.prog 24 #[.string s] w (ParsePost s.data.toList w) := by
  have HLEN := Lib.hid (toList_size s)
  obtain ⟨i0, hi, q0, q1, q2⟩ := info_parts infoDat
  have h0 : 0 < s.size := by omega
  have h2' : ¬ ((s.size : Int) < 2) := by omega
  have HSTART : Hid (ScanQ s.data.toList [] 1 1) := Lib.hid (by
    by_cases h : 2 < s.data.toList.length
    · exact .inl ⟨h, ScanP.start h⟩
    · exact .inr ⟨by have := HLEN.out; omega, rfl⟩)
  go_enter Tryd.func24, Tryd.ntmps24
  go_wp2
  go_loopw [8, 9] (fun f i wr => ∃ (frm j n cv : Nat) (av : Option Addr) (acc : List It), 1 ≤ frm ∧ frm ≤ j ∧ j ≤ s.size ∧ n ≤ 8 ∧ f = .int .i64 frm ∧ i = .int .i64 j ∧ Hid (RP w av n cv acc wr) ∧ Hid (ScanQ s.data.toList acc frm j)) (fun _ i _ => s.size - (intOf i).toNat)
  case atStart => exact ⟨1, 1, 0, 0, none, [], by omega, by omega, by omega, by omega, rfl, rfl, Lib.hid (RP.start w), HSTART⟩
  case round =>
    obtain ⟨frm, j, n, cv, av, acc, hf1, hfj, hjs, hn8, rfl, rfl, HP, HQ⟩ := hrel
    obtain ⟨c0, c1, c2, c3⟩ := box_cells HP.out.bel
    obtain ⟨f0, f1, f2, f3⟩ := box_frozen HP.out.bel
    have hlt := HP.out.lt
    have HBW : Hid (Below w.heap.size w wr) := Lib.hid (below_al _ (by simpa using HP.out.bel))
    have d0 : wr.cell? ⟨w.heap.size + 1, 0, none⟩ = some (.int .i64 3) := by rw [Lib.cell_of_heap HP.out.dblk]; rfl
    have d1 : wr.cell? ⟨w.heap.size + 1, 1, none⟩ = some (.int .i64 0) := by rw [Lib.cell_of_heap HP.out.dblk]; rfl
    have d2 : wr.cell? ⟨w.heap.size + 1, 2, none⟩ = some (.string ⟨#[]⟩) := by rw [Lib.cell_of_heap HP.out.dblk]; rfl
    have d3 : wr.cell? ⟨w.heap.size + 1, 3, none⟩ = some (.slice av n cv) := by rw [Lib.cell_of_heap HP.out.dblk]; rfl
    by_cases hin : j < s.size ∧ 2 < s.size
    · obtain ⟨hjlt, hs2⟩ := hin
      have hs2i : ((2 : Int) < (s.size : Int)) := by omega
      have hji : ((j : Int) < (s.size : Int)) := by omega
      have HS : Hid (ScanP s.data.toList acc frm j) := Lib.hid (by
        rcases HQ.out with ⟨_, h⟩ | ⟨h, _⟩
        · exact h
        · have := HLEN.out; omega)
      by_cases hskip : s[j] ≠ 44 ∧ j + 1 < s.size
      · have hb44 : ((s[j].toNat : Int) != 44) = true := by
          have := u8_not (c := 44) hskip.1
          rw [bne, show (44 : Int) = ((44 : UInt8).toNat : Int) from rfl, this]
          rfl
        have hj1 : ((j : Int) < (s.size : Int) - 1) := by omega
        have HN : Hid (ScanQ s.data.toList acc frm (j + 1)) := Lib.hid (.inl ⟨by have := HLEN.out; omega, HS.out.skip (by have := HLEN.out; omega) hskip.1⟩)
        clear hskip
        go_wp2
        go_roundw
        case rel => exact ⟨frm, j + 1, n, cv, av, acc, hf1, by omega, by omega, hn8, rfl, by go_num, HP, HN⟩
        case measure => simp [intOf]; omega
      · have hend : s[j] = 44 ∨ s.data.toList.length ≤ j + 1 := by
          by_cases h : s[j] = 44
          · exact .inl h
          · exact .inr (by have := HLEN.out; have : ¬ (j + 1 < s.size) := fun hh => hskip ⟨h, hh⟩; omega)
        have hcase : ((s[j].toNat : Int) != 44) = false ∨ ((s[j].toNat : Int) != 44) = true ∧ ¬ ((j : Int) < (s.size : Int) - 1) := by
          by_cases h : s[j] = 44
          · exact .inl (by rw [bne_eq_false_iff_eq, h]; rfl)
          · refine .inr ⟨?_, by have : ¬ (j + 1 < s.size) := fun hh => hskip ⟨h, hh⟩; omega⟩
            have := u8_not (c := 44) h
            rw [bne, show (44 : Int) = ((44 : UInt8).toNat : Int) from rfl, this]
            rfl
        have HEND := Lib.hid hend
        clear hskip hend
        by_cases hn : n = 8
        · have hb8 : ((n : Int) == 8) = true := by rw [beq_iff_eq]; omega
          have HNO : Hid (∀ k n t xs, Valid k n t xs → s.data.toList ≠ datT k n t xs) := Lib.hid (scan_no h91.out (HS.out.full hfj (by have := HLEN.out; omega) (by have := HP.out.len; omega)))
          clear hn
          rcases hcase with hb44 | ⟨hb44, hj1⟩
          all_goals
            go_wp2
            exact bodyPost_ret (v := .tuple #[.agg #[.int .i64 0, .int .i64 0, .string ⟨#[]⟩, .slice none 0 0], .int .i64 11]) (by simp only [results, Tryd.f24]; simp [go_sem, c0, c1, c2, c3]) rfl ⟨below_res HBW.out, .inr ⟨rfl, HNO.out⟩⟩
        · have hb8 : ((n : Int) == 8) = false := by rw [beq_eq_false_iff_ne]; omega
          have hn7 : n ≤ 7 := by omega
          clear hn
          have HR := Lib.hid (fun W => read_any (s.extract frm j) W (Nat.le_trans (extract_size_le s frm j) hs))
          have hfjI : (frm : Int) ≤ j := by omega
          rcases hcase with hb44 | ⟨hb44, hj1⟩
          all_goals
            go_wp2_with fail
            refine (HR.out _).mono ?_
            rintro e w1 ⟨hb1, k, m, t, ok, rfl, hn, hyes, hno⟩
            rw [extract_cut] at hyes hno
            have HP1 := Lib.hid (HP.out.below hb1)
            have hz1 := hb1.size
            have HB1 : Hid (Below w.heap.size w w1) := Lib.hid (below_al _ (by simpa using HP1.out.bel))
            have HN := Lib.hid hn
            clear hb1 hn c0 c1 c2 c3 f0 f1 f2 f3 d0 d1 d2 d3
            obtain ⟨c0, c1, c2, c3⟩ := box_cells HP1.out.bel
            obtain ⟨f0, f1, f2, f3⟩ := box_frozen HP1.out.bel
            have hzw : w.heap.size < w1.heap.size := by omega
            cases ok
            · have HNO := Lib.hid (hno rfl); clear hyes hno
              obtain ⟨qb, hqb⟩ : ∃ qb, qb = decide (((s.data.toList.drop frm).take (j - frm)).head? = some 39) := ⟨_, rfl⟩
              have HQT : Hid (∀ W, Calls Tryd.prog 50 #[.string (s.extract frm j)] W fun e w' => e = .returned (.bool qb) ∧ W = w') := Lib.hid (fun W => (quoted_any _ W).mono fun e w' ⟨h1, h2⟩ => ⟨by rw [h1, hqb, extract_cut], h2.symm⟩)
              cases qb
              · have HNV := Lib.hid (scan_no h91.out (HS.out.bad hfj (by have := HLEN.out; omega) HEND.out HNO.out (fun h => by rw [h] at hqb; simp at hqb)))
                clear hqb
                obtain ⟨r0, r1, r2, r3⟩ := res_alloc (v0 := .int .i64 0) (v1 := .int .i64 0) (v2 := .string ⟨#[]⟩) (v3 := .slice none 0 0) c0 c1 c2 c3 (.cells #[.int .i64 k, .int .i64 m, .string t, .slice none 0 0] 24)
                have HBB : Hid (Below w.heap.size w (((((w1.setCell ⟨w.heap.size, 0, none⟩ (.int .i64 0)).setCell ⟨w.heap.size, 1, none⟩ (.int .i64 0)).setCell ⟨w.heap.size, 2, none⟩ (.string ⟨#[]⟩)).setCell ⟨w.heap.size, 3, none⟩ (.slice none 0 0)).alloc (.cells #[.int .i64 k, .int .i64 m, .string t, .slice none 0 0] 24))) := Lib.hid ((below_res HB1.out).alloc (by rw [size_set4]; omega) _)
                go_wp2_with fail
                refine (HQT.out _).mono ?_
                rintro e w2 ⟨rfl, rfl⟩
                go_wp2
                exact bodyPost_ret (v := .tuple #[.agg #[.int .i64 0, .int .i64 0, .string ⟨#[]⟩, .slice none 0 0], .int .i64 11]) (by simp only [results, Tryd.f24]; simp [go_sem, r0, r1, r2, r3]) rfl ⟨HBB.out, .inr ⟨rfl, HNV.out⟩⟩
              · clear hqb
                have HP2 := Lib.hid (HP1.out.below ((Below.refl _ w1).alloc (Nat.le_refl _) (.cells #[.int .i64 k, .int .i64 m, .string t, .slice none 0 0] 24)))
                have HN2 : Hid (ScanQ s.data.toList acc frm (j + 1)) := Lib.hid (.inl ⟨by have := HLEN.out; omega, HS.out.miss HNO.out⟩)
                go_wp2_with fail
                refine (HQT.out _).mono ?_
                rintro e w2 ⟨rfl, rfl⟩
                go_wp2
                go_roundw
                case rel => exact ⟨frm, j + 1, n, cv, av, acc, hf1, by omega, by omega, by omega, rfl, by go_num, HP2, HN2⟩
                case measure => simp [intOf]; omega
            · have HY := Lib.hid (hyes rfl); clear hyes hno
              have d3 : w1.cell? ⟨w.heap.size + 1, 3, none⟩ = some (.slice av n cv) := by rw [Lib.cell_of_heap HP1.out.dblk]; rfl
              have hlt1 := HP1.out.lt
              go_wp2_with (at_builtin; refine wpList_append_own _ rfl _ _ 22 rfl (w.heap.size + 2) 24 i0 (.agg #[.int .i64 0, .int .i64 0, .string ⟨#[]⟩, .slice none 0 0]) 4 56 Tryd.underlying22 hi q0 q1 q2 rfl (by decide) _ _ _ rfl ((HP1.out.row.alloc _).alloc _) ⟨w1.heap.size + 1, 0, none⟩ 1 1 [.int .i64 k, .int .i64 m, .string t, .slice none 0 0] rfl rfl ?c1 ?c2 ?c3 ?c4 ?c5 ?_)
              case c1 =>
                intro q u hu
                have hq : q = 0 ∨ q = 1 ∨ q = 2 ∨ q = 3 := by
                  have := (List.getElem?_eq_some_iff.1 hu).1
                  simp at this
                  omega
                rcases hq with rfl | rfl | rfl | rfl <;> (simp at hu; subst hu; simp [Addr.add])
              case c2 => intro u hu; simp at hu; rcases hu with rfl | rfl | rfl | rfl <;> rfl
              case c3 => unfold maxLen; omega
              case c4 => omega
              case c5 => simp; omega
              intro v' w2 hown' hgrow _
              obtain ⟨av', cv', rfl⟩ : ∃ a c, v' = .slice a (n + 1) c := by
                rcases hown'.2 with ⟨_, h0⟩ | ⟨g', cap', cur, hv, _⟩
                · omega
                · exact ⟨_, cap', hv⟩
              have hz2 : w1.heap.size < w2.heap.size := by have := hgrow.size; rw [World.size_alloc, World.size_alloc] at this; omega
              have hblk2 : w2.heap[w.heap.size + 1]? = some (.cells #[.int .i64 3, .int .i64 0, .string ⟨#[]⟩, .slice av n cv] 24 (0, 0)) := by
                rw [hgrow.block (w.heap.size + 1) (by rw [World.size_alloc, World.size_alloc]; omega) (fun e => by have := (HP1.out.row.lt _ e.symm).1; omega)]
                rw [Below.heap_alloc _ _ _ (by rw [World.size_alloc]; omega), Below.heap_alloc _ _ _ hlt1]
                exact HP1.out.dblk
              have HP2 : Hid (RP w av' (n + 1) cv' (acc ++ [(⟨k, m, t, none, 0, 0⟩ : It)]) (w2.setCell ⟨w.heap.size + 1, 3, none⟩ (.slice av' (n + 1) cv'))) := Lib.hid (by
                refine ⟨?_, dblk_set hblk2, ?_, by rw [List.length_append, HP1.out.len]; rfl, ?_⟩
                · exact (((HP1.out.bel.alloc (by omega) _).alloc (by rw [World.size_alloc]; omega) _).grown hgrow (by rw [World.size_alloc, World.size_alloc]; omega) (fun q hq => by have := (HP1.out.row.lt q hq).1; omega)).setCell (p := ⟨w.heap.size + 1, 3, none⟩) (Nat.le_refl _) _
                · rw [itVals_snoc]
                  refine ownsRow_setCell_other hown' (fun e => ?_) _
                  have := (hown'.lt _ e).1
                  simp at this
                · intro x hx
                  rcases List.mem_append.1 hx with hx | hx
                  · exact HP1.out.ok x hx
                  · rw [List.mem_singleton] at hx; subst hx; exact item_of HY.out.1 HN.out)
              have HN2 : Hid (ScanQ s.data.toList (acc ++ [(⟨k, m, t, none, 0, 0⟩ : It)]) (j + 1) (j + 1)) := Lib.hid (.inl ⟨by have := HLEN.out; omega, HS.out.item hfj (by have := HLEN.out; omega) HEND.out HY.out.1 HN.out HY.out.2 _ rfl⟩)
              have e3 : w2.cell? ⟨w.heap.size + 1, 3, none⟩ = some (.slice av n cv) := by rw [Lib.cell_of_heap hblk2]; rfl
              have g3 : w2.frozen? ⟨w.heap.size + 1, 3, none⟩ = false := Lib.frozen_of_heap hblk2 3
              clear hown' hgrow hblk2 d3 c0 c1 c2 c3 f0 f1 f2 f3
              go_wp2
              go_roundw
              case rel => exact ⟨j + 1, j + 1, n + 1, cv', av', _, by omega, by omega, by omega, by omega, by go_num, by go_num, HP2, HN2⟩
              case measure => simp [intOf]; omega
    · have hdone := HQ.out.done (by have := HLEN.out; omega)
      have HF := Lib.hid HP.out.fre
      have HCL := Lib.hid (scan_clause h91.out hdone)
      clear hdone
      have hguard : ¬ ((j : Int) < (s.size : Int)) ∨ (j : Int) < (s.size : Int) ∧ ¬ ((2 : Int) < (s.size : Int)) := by omega
      have HTX : Hid (∀ W, Below wr.heap.size wr W → Calls Tryd.prog 43 #[.agg #[.int .i64 3, .int .i64 0, .string ⟨#[]⟩, .slice av n cv]] W fun e w' => e = .returned (.string ⟨(datT 3 0 ⟨#[]⟩ acc).toArray⟩) ∧ Below W.heap.size W w') := Lib.hid (fun W hW => by
        rw [← HP.out.len]
        exact rText_any 3 0 _ av acc cv W (hL.out.below (HBW.out.trans (hW.mono (by omega))) hL.out.six) (HP.out.below hW).slg.sl (HP.out.dok hn8) ⟨by decide, by decide⟩ HF.out.allI)
      have HMY : Hid (∀ W, Below wr.heap.size wr W → Calls Tryd.prog 30 #[.agg #[.int .i64 3, .int .i64 0, .string ⟨#[]⟩, .slice av n cv]] W fun e w' => e = .returned (.bool true) ∧ Below W.heap.size W w') := Lib.hid (fun W hW => by
        rw [← HP.out.len]
        exact may_ok 3 0 _ av acc cv W (HP.out.below hW).slg.sl (HP.out.dok hn8))
      clear hin
      rcases hguard with hji | ⟨hji, hs2i⟩
      all_goals
        go_wp2_with fail
        refine (HTX.out _ (Below.refl _ _)).mono ?_
        rintro e w1 ⟨rfl, hb1⟩
        have HP1 := Lib.hid (HP.out.below hb1)
        have HB1 := Lib.hid hb1
        have hz1 := hb1.size
        clear hb1 c0 c1 c2 c3 f0 f1 f2 f3 d0 d1 d2 d3
        by_cases heq : datT 3 0 ⟨#[]⟩ acc = s.toList
        · have hne : (datT 3 0 ⟨#[]⟩ acc != s.toList) = false := by rw [bne_eq_false_iff_eq]; exact heq
          have hne2 : (datT 3 0 ⟨#[]⟩ acc == s.toList) = true := by rw [beq_iff_eq]; exact heq
          have HEQ := Lib.hid heq; clear heq
          obtain ⟨dt, hdt⟩ : ∃ dt, dt = datT 3 0 ⟨#[]⟩ acc := ⟨_, rfl⟩
          rw [← hdt] at hne hne2 ⊢
          clear hdt
          have d0 : w1.cell? ⟨w.heap.size + 1, 0, none⟩ = some (.int .i64 3) := by rw [Lib.cell_of_heap HP1.out.dblk]; rfl
          have d1 : w1.cell? ⟨w.heap.size + 1, 1, none⟩ = some (.int .i64 0) := by rw [Lib.cell_of_heap HP1.out.dblk]; rfl
          have d2 : w1.cell? ⟨w.heap.size + 1, 2, none⟩ = some (.string ⟨#[]⟩) := by rw [Lib.cell_of_heap HP1.out.dblk]; rfl
          have d3 : w1.cell? ⟨w.heap.size + 1, 3, none⟩ = some (.slice av n cv) := by rw [Lib.cell_of_heap HP1.out.dblk]; rfl
          go_wp2_with fail
          refine (HMY.out _ HB1.out).mono ?_
          rintro e w2 ⟨rfl, hb2⟩
          have HP2 := Lib.hid (HP1.out.below hb2)
          have hz2 := hb2.size
          clear hb2 d0 d1 d2 d3
          obtain ⟨c0, c1, c2, c3⟩ := box_cells HP2.out.bel
          obtain ⟨f0, f1, f2, f3⟩ := box_frozen HP2.out.bel
          have d0 : w2.cell? ⟨w.heap.size + 1, 0, none⟩ = some (.int .i64 3) := by rw [Lib.cell_of_heap HP2.out.dblk]; rfl
          have d1 : w2.cell? ⟨w.heap.size + 1, 1, none⟩ = some (.int .i64 0) := by rw [Lib.cell_of_heap HP2.out.dblk]; rfl
          have d2 : w2.cell? ⟨w.heap.size + 1, 2, none⟩ = some (.string ⟨#[]⟩) := by rw [Lib.cell_of_heap HP2.out.dblk]; rfl
          have d3 : w2.cell? ⟨w.heap.size + 1, 3, none⟩ = some (.slice av n cv) := by rw [Lib.cell_of_heap HP2.out.dblk]; rfl
          have HB2 : Hid (Below w.heap.size w w2) := Lib.hid (below_al _ (by simpa using HP2.out.bel))
          go_wp2
          exact bodyPost_ret (v := .tuple #[.agg #[.int .i64 3, .int .i64 0, .string ⟨#[]⟩, .slice av n cv], .int .i64 0]) (by simp only [results, Tryd.f24]; simp [go_sem, c0, c1, c2, c3]) rfl ⟨below_res HB2.out, .inl ⟨3, 0, ⟨#[]⟩, av, acc, cv, by rw [HP2.out.len], ⟨HP2.out.dok hn8, ⟨by decide, by decide⟩, HF.out.allI⟩, HF.out, Sl.res HP2.out.slg (by omega) _ _ _ _, by rw [HEQ.out, ByteArray.toList_eq], HCL.out⟩⟩
        · have hne : (datT 3 0 ⟨#[]⟩ acc != s.toList) = true := by rw [bne_iff_ne]; exact heq
          have hne2 : (datT 3 0 ⟨#[]⟩ acc == s.toList) = false := by rw [beq_eq_false_iff_ne]; exact heq
          have HNO := Lib.hid (none_of HCL.out HF.out (.inr (by rw [← ByteArray.toList_eq]; exact heq))); clear heq
          obtain ⟨dt, hdt⟩ : ∃ dt, dt = datT 3 0 ⟨#[]⟩ acc := ⟨_, rfl⟩
          rw [← hdt] at hne hne2 ⊢
          clear hdt
          obtain ⟨c0, c1, c2, c3⟩ := box_cells HP1.out.bel
          obtain ⟨f0, f1, f2, f3⟩ := box_frozen HP1.out.bel
          have HBB : Hid (Below w.heap.size w w1) := Lib.hid (below_al _ (by simpa using HP1.out.bel))
          go_wp2
          exact bodyPost_ret (v := .tuple #[.agg #[.int .i64 0, .int .i64 0, .string ⟨#[]⟩, .slice none 0 0], .int .i64 11]) (by simp only [results, Tryd.f24]; simp [go_sem, c0, c1, c2, c3]) rfl ⟨below_res HBB.out, .inr ⟨rfl, HNO.out⟩⟩

theorem rparse_any (s : ByteArray) (w : World) (hL : Laid w) (hs : s.size ≤ 140737488355000) : Calls Tryd.prog 24 #[.string s] w (ParsePost s.data.toList w) := by
  by_cases h : s.data.toList.length < 2 ∨ s.data.toList.head? ≠ some 91
  · exact rparse_item s w hs h
  · have hl : s.data.toList.length = s.size := rfl
    have h2 : 2 ≤ s.size := by omega
    have hh : s.data.toList.head? = some 91 := by
      by_cases hq : s.data.toList.head? = some 91
      · exact hq
      · exact absurd (Or.inr hq) h
    obtain ⟨r, hr⟩ : ∃ r, s.data.toList = 91 :: r := by
      cases he : s.data.toList with
      | nil => rw [he] at hh; cases hh
      | cons c r => rw [he] at hh; injection hh with hh; exact ⟨r, by rw [hh]⟩
    have e : s[0]'(by omega) = 91 := first_cons hr (by omega)
    exact rparse_list s w (Lib.hid hL) hs h2 (by rw [bne_eq_false_iff_eq, e]; rfl) (Lib.hid ⟨r, hr⟩)
end Go.Proofs.YtoiahhfjejddjaaDoor
